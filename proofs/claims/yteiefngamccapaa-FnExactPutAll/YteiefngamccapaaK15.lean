/- Contract of CutAt in the model, over this seat's translation. -/
import Derived.Test.YteiefngamccapaaK14
import Derived.Test.YteiefngamccapaaK2
import Derived.Test.YteiefngamccapaaK5
import Derived.Test.YteiefngamccapaaK12
namespace Go.Proofs.Yteiefngamccapaa
open Go.RowKit Go.Deep

theorem call_by {P : Program} {f : FuncId} {a a' : Array Value} {W : World} {Q : Ending → World → Prop} (h : a = a') (hc : Calls P f a' W Q) : Calls P f a W Q := h ▸ hc
set_option maxHeartbeats 4000000 in
set_option maxRecDepth 100000 in
theorem cut34 (s : ByteArray) (c1 c2 c3 t : Int) (hs : s.size ≤ 1048576) (w : World) : Calls Try.prog 86 #[.agg #[.string s, .int .i64 c1, .int .i64 c2, .int .i64 c3], .int .i64 t] w (CtEnd (s, c1, c2, c3) t w) := by
  have HB0 := Lib.hid ((((Below.refl w.heap.size w).alloc (Nat.le_refl _) (.cells #[.string s, .int .i64 c1, .int .i64 c2, .int .i64 c3] 85)).alloc (by simp) (.cells #[zS, zI, zI, zI] 85)).alloc (by simp; omega) (.cells #[zS, zI, zI, zI] 85))
  have HXa := Lib.hid ((Bx.new (w.alloc (.cells #[.string s, .int .i64 c1, .int .i64 c2, .int .i64 c3] 85)) zS zI zI zI 85).alloc (.cells #[zS, zI, zI, zI] 85))
  have HXb := Lib.hid (Bx.new ((w.alloc (.cells #[.string s, .int .i64 c1, .int .i64 c2, .int .i64 c3] 85)).alloc (.cells #[zS, zI, zI, zI] 85)) zS zI zI zI 85)
  simp only [World.size_alloc] at HXa HXb
  have HX0 := Lib.hid (((Bx.new w (.string s) (.int .i64 c1) (.int .i64 c2) (.int .i64 c3) 85).alloc (.cells #[zS, zI, zI, zI] 85)).alloc (.cells #[zS, zI, zI, zI] 85))
  have HC := Lib.hid (fun W => good81 s c1 c2 c3 hs W)
  unfold GdEnd at HC
  unfold CtEnd
  by_cases hg : soB (s, c1, c2, c3) = true
  case neg =>
    have hg : soB (s, c1, c2, c3) = false := by simpa using hg
    have HN := Lib.hid (ct_no (t := t) hg)
    rw [hg] at HC
    clear hg
    go_enter Try.func86, Try.ntmps86
    go_wp2_with fail
    refine (HC.out _).mono ?_
    rintro e w1 ⟨rfl, hb1⟩
    have hbs := HB0.out.trans (hb1.mono HB0.out.size)
    obtain ⟨z0, z1, z2, z3, f0, f1, f2, f3⟩ := (HXa.out.below hb1).cells
    obtain ⟨v0, v1, v2, v3, g0, g1, g2, g3⟩ := (HXb.out.below hb1).cells
    clear hb1
    go_wp2
    exact bodyPost_ret (v := .tuple #[.agg #[zS, zI, zI, zI], .agg #[zS, zI, zI, zI], .bool false]) (by simp [results, Try.results86, go_sem, z0, z1, z2, z3, v0, v1, v2, v3]) rfl ⟨HN.out, below4 (below4 hbs (by omega)) (by omega)⟩
  have HI := Lib.hid (so_is hg)
  have HCT := Lib.hid (fun (k : Nat) (p q : Chk) => ct_yes (c := (s, c1, c2, c3)) (t := t) (k := k) (p := p) (q := q) hg)
  have HPK := Lib.hid HI.out.2.1
  have HFit := Lib.hid HI.out.1
  have h8 := HI.out.len
  rw [hg] at HC
  clear hg
  generalize soL (s, c1, c2, c3) = l at HI HCT HPK HFit h8
  go_enter Try.func86, Try.ntmps86
  go_wp2_with fail
  refine (HC.out _).mono ?_
  rintro e w0 ⟨rfl, hb1⟩
  have HB00 := Lib.hid (HB0.out.trans (hb1.mono HB0.out.size))
  have HXa0 := Lib.hid (HXa.out.below hb1)
  have HXb0 := Lib.hid (HXb.out.below hb1)
  obtain ⟨o0, o1, o2, o3, _⟩ := (HX0.out.below hb1).cells
  clear hb1 HB0 HXa HXb HC HX0
  go_wp2_with fail
  refine (take82 s c1 c2 c3 hs _).mono ?_
  rintro e w1 ⟨⟨ao, n, cp, rfl, hn60, hn⟩ | ⟨xs, ao, cp, hF, h60, rfl, ho, hgg⟩, hb1⟩
  · exact absurd HI.out (hn _)
  obtain rfl := hgg _ HI.out
  have hcp := own_len ho
  have HS1 := Lib.hid (SRow.of_own ho).2
  have HB1 := Lib.hid (HB00.out.trans (hb1.mono HB00.out.size))
  have HXa1 := Lib.hid (HXa0.out.below hb1)
  have HXb1 := Lib.hid (HXb0.out.below hb1)
  clear ho hb1 HB00 HXa0 HXb0 HI hgg hF h60 o0 o1 o2 o3
  go_wp2
  go_loopw [9] (fun i wr => ∃ k : Nat, k ≤ l.length ∧ i = .int .i64 k ∧ wr = w1 ∧ Hid (CK l t k)) (fun i _ => l.length - (intOf i).toNat)
  case atStart => exact ⟨0, Nat.zero_le _, rfl, rfl, Lib.hid (ck_zero l t)⟩
  case round =>
    obtain ⟨k, hle, rfl, rfl, hK⟩ := hrel
    by_cases hlt : k < l.length
    · obtain ⟨b, off, rfl, hbl, hc⟩ := HS1.out.tv (by omega)
      have c0 := (hc k hlt).1
      have HTk := Lib.hid (fun h : tF l k < t => ck_succ hK.out hlt h)
      have HTn := Lib.hid (fun h : t ≤ tF l k => ck_is hK.out (.inr h))
      generalize tF l k = x at c0 HTk HTn
      clear hc
      by_cases hx : x < t
      · have HT2 := Lib.hid (HTk.out hx)
        go_wp2
        go_roundw
        case rel => exact ⟨k + 1, by omega, by go_num, by trivial, HT2⟩
        case measure => simp [intOf]; omega
      have HKK := Lib.hid (HTn.out (by omega))
      obtain ⟨ao1, ao2, hs1, hs2, hsr⟩ := cut_slices (some ⟨b, off, none⟩) l k cp hle hcp
      obtain ⟨hR1, hR2⟩ := hsr _ _ HS1.out
      have HR2 := Lib.hid (fun (W : World) (hb : Below wr.heap.size wr W) => hR2.after hb)
      have HR1 := Lib.hid (fun (W : World) (hb : Below wr.heap.size wr W) => hR1.after hb)
      have hl1 : (l.take k).length = k := by rw [List.length_take]; omega
      have hl2 : (l.drop k).length = l.length - k := List.length_drop
      have HP1 := Lib.hid (fun W hW => pack77 ao1 cp (l.take k) (HFit.out.take k) (by omega) W hW)
      have HP2 := Lib.hid (fun W hW => pack77 ao2 (cp - k) (l.drop k) (HFit.out.drop k) (by omega) W hW)
      rw [hl1] at HP1
      rw [hl2] at HP2
      have HY := Lib.hid (fun (p q : Chk) => HCT.out k p q HKK.out)
      clear hR1 hR2 hsr hl1 hl2
      obtain ⟨p, hp⟩ : ∃ p, p = pkC (l.take k) := ⟨_, rfl⟩
      obtain ⟨q, hq⟩ : ∃ q, q = pkC (l.drop k) := ⟨_, rfl⟩
      have HYY := Lib.hid (HY.out p q hp hq)
      rw [← hp] at HP1
      rw [← hq] at HP2
      clear hp hq HY
      obtain ⟨s1, x1, y1, z1⟩ := p
      obtain ⟨s2, x2, y2, z2⟩ := q
      unfold chV at HP1 HP2
      simp only at HP1 HP2
      obtain ⟨m, hm⟩ : ∃ m, m = l.length - k := ⟨_, rfl⟩
      obtain ⟨d, hd⟩ : ∃ d, d = cp - k := ⟨_, rfl⟩
      rw [← hm, ← hd] at HP2 hs2
      clear hm hd
      go_wp2_with fail
      go_region_held3 (fun _ => True) (trivial) (first | (go_at_call 89; (first | (refine Calls.mono (call_by (a' := #[.slice ao1 k cp]) (by with_reducible rfl) (HP1.out _ (HR1.out _ (by first | exact hb | exact (Below.refl _ _).drew)))) ?_) | (refine Calls.mono (call_by (a' := #[.slice ao2 m d]) (by with_reducible rfl) (HP2.out _ (HR2.out _ (by first | exact hb | exact (Below.refl _ _).drew)))) ?_)); rintro e wa ⟨rfl, hba⟩; (first | (have hb := hb.trans (hba.mono hb.size)) | (have hb := (Below.refl wr.heap.size wr).drew.trans hba)); clear hba; obtain ⟨z0, z1', z2', z3, f0, f1, f2, f3⟩ := (HXa1.out.below hb).cells; obtain ⟨v0, v1, v2, v3, g0, g1, g2, g3⟩ := (HXb1.out.below hb).cells))
      all_goals have hbs := HB1.out.trans (hb.mono HB1.out.size)
      all_goals go_wp2
      all_goals exact bodyPost_ret (v := .tuple #[.agg #[.string s1, .int .i64 x1, .int .i64 y1, .int .i64 z1], .agg #[.string s2, .int .i64 x2, .int .i64 y2, .int .i64 z2], .bool true]) (by simp [results, Try.results86, go_sem, z0, z1', z2', z3, v0, v1, v2, v3]) rfl ⟨HYY.out, below4 (below4 hbs (by omega)) (by omega)⟩
    · have HKK := Lib.hid (ck_is hK.out (.inl (by omega)))
      obtain ⟨ao1, ao2, hs1, hs2, hsr⟩ := cut_slices ao l k cp hle hcp
      obtain ⟨hR1, hR2⟩ := hsr _ _ HS1.out
      have HR2 := Lib.hid (fun (W : World) (hb : Below wr.heap.size wr W) => hR2.after hb)
      have HR1 := Lib.hid (fun (W : World) (hb : Below wr.heap.size wr W) => hR1.after hb)
      have hl1 : (l.take k).length = k := by rw [List.length_take]; omega
      have hl2 : (l.drop k).length = l.length - k := List.length_drop
      have HP1 := Lib.hid (fun W hW => pack77 ao1 cp (l.take k) (HFit.out.take k) (by omega) W hW)
      have HP2 := Lib.hid (fun W hW => pack77 ao2 (cp - k) (l.drop k) (HFit.out.drop k) (by omega) W hW)
      rw [hl1] at HP1
      rw [hl2] at HP2
      have HY := Lib.hid (fun (p q : Chk) => HCT.out k p q HKK.out)
      clear hR1 hR2 hsr hl1 hl2
      obtain ⟨p, hp⟩ : ∃ p, p = pkC (l.take k) := ⟨_, rfl⟩
      obtain ⟨q, hq⟩ : ∃ q, q = pkC (l.drop k) := ⟨_, rfl⟩
      have HYY := Lib.hid (HY.out p q hp hq)
      rw [← hp] at HP1
      rw [← hq] at HP2
      clear hp hq HY
      obtain ⟨s1, x1, y1, z1⟩ := p
      obtain ⟨s2, x2, y2, z2⟩ := q
      unfold chV at HP1 HP2
      simp only at HP1 HP2
      obtain ⟨m, hm⟩ : ∃ m, m = l.length - k := ⟨_, rfl⟩
      obtain ⟨d, hd⟩ : ∃ d, d = cp - k := ⟨_, rfl⟩
      rw [← hm, ← hd] at HP2 hs2
      clear hm hd
      go_wp2_with fail
      go_region_held3 (fun _ => True) (trivial) (first | (go_at_call 89; (first | (refine Calls.mono (call_by (a' := #[.slice ao1 k cp]) (by with_reducible rfl) (HP1.out _ (HR1.out _ (by first | exact hb | exact (Below.refl _ _).drew)))) ?_) | (refine Calls.mono (call_by (a' := #[.slice ao2 m d]) (by with_reducible rfl) (HP2.out _ (HR2.out _ (by first | exact hb | exact (Below.refl _ _).drew)))) ?_)); rintro e wa ⟨rfl, hba⟩; (first | (have hb := hb.trans (hba.mono hb.size)) | (have hb := (Below.refl wr.heap.size wr).drew.trans hba)); clear hba; obtain ⟨z0, z1', z2', z3, f0, f1, f2, f3⟩ := (HXa1.out.below hb).cells; obtain ⟨v0, v1, v2, v3, g0, g1, g2, g3⟩ := (HXb1.out.below hb).cells))
      all_goals have hbs := HB1.out.trans (hb.mono HB1.out.size)
      all_goals go_wp2
      all_goals exact bodyPost_ret (v := .tuple #[.agg #[.string s1, .int .i64 x1, .int .i64 y1, .int .i64 z1], .agg #[.string s2, .int .i64 x2, .int .i64 y2, .int .i64 z2], .bool true]) (by simp [results, Try.results86, go_sem, z0, z1', z2', z3, v0, v1, v2, v3]) rfl ⟨HYY.out, below4 (below4 hbs (by omega)) (by omega)⟩

end Go.Proofs.Yteiefngamccapaa
namespace Go.Proofs.Yteiefngamccapaa
open Go.RowKit Go.Deep

/-- Whether two chunks are joined, and to what. -/
noncomputable def jnB (c d : Chk) : Bool := soB c && soB d && pkB (soL c ++ soL d)
noncomputable def jnC (c d : Chk) : Chk := if jnB c d = true then pkC (soL c ++ soL d) else zeroC
def JnEnd (c d : Chk) (w : World) (e : Ending) (w' : World) : Prop := e = .returned (.tuple #[chV (jnC c d), .bool (jnB c d)]) ∧ Below w.heap.size w w'
theorem jn_no {c d : Chk} (h : jnB c d = false) : Ending.returned (.tuple #[.agg #[zS, zI, zI, zI], .bool false]) = .returned (.tuple #[chV (jnC c d), .bool (jnB c d)]) := by
  unfold jnC
  rw [h, if_neg (by decide)]; rfl
theorem jn_no1 {c d : Chk} (h : soB c = false) : jnB c d = false := by unfold jnB; simp [h]
theorem jn_no2 {c d : Chk} (h : soB d = false) : jnB c d = false := by unfold jnB; simp [h]
theorem jn_pk {c d : Chk} (h1 : soB c = true) (h2 : soB d = true) : Ending.returned (.tuple #[chV (pkR (soL c ++ soL d)), .bool (pkB (soL c ++ soL d))]) = .returned (.tuple #[chV (jnC c d), .bool (jnB c d)]) := by
  unfold jnC pkR
  have : jnB c d = pkB (soL c ++ soL d) := by unfold jnB; simp [h1, h2]
  rw [this]
/-- Whether a sample is added. -/
noncomputable def adB (c : Chk) (x : Smp) : Bool := soB c && pkB (soL c ++ [x])
noncomputable def adC (c : Chk) (x : Smp) : Chk := if adB c x = true then pkC (soL c ++ [x]) else zeroC
def AdEnd (c : Chk) (x : Smp) (w : World) (e : Ending) (w' : World) : Prop := e = .returned (.tuple #[chV (adC c x), .bool (adB c x)]) ∧ Below w.heap.size w w'
theorem ad_no {c : Chk} {x : Smp} (h : adB c x = false) : Ending.returned (.tuple #[.agg #[zS, zI, zI, zI], .bool false]) = .returned (.tuple #[chV (adC c x), .bool (adB c x)]) := by
  unfold adC
  rw [h, if_neg (by decide)]; rfl
theorem ad_no1 {c : Chk} {x : Smp} (h : soB c = false) : adB c x = false := by unfold adB; simp [h]
theorem ad_pk {c : Chk} {x : Smp} (h1 : soB c = true) : Ending.returned (.tuple #[chV (pkR (soL c ++ [x])), .bool (pkB (soL c ++ [x]))]) = .returned (.tuple #[chV (adC c x), .bool (adB c x)]) := by
  unfold adC pkR
  have : adB c x = pkB (soL c ++ [x]) := by unfold adB; simp [h1]
  rw [this]
/-- One sample is good where its time is within bounds; joined behind others it is added. -/
theorem good_right {a b : List Smp} (h : goodS (a ++ b) = true) : goodS b = true := by
  have := good_drop h a.length
  rwa [List.drop_left] at this
theorem ad_one {c : Chk} {x : Smp} (h : pkB [x] = false) : adB c x = false := by
  unfold adB
  cases hs : soB c with
  | false => rfl
  | true =>
    cases hp : pkB (soL c ++ [x]) with
    | false => rfl
    | true =>
      have := pkB_good (l := [x]) (by simp) (good_right (pkB_fit hp).2)
      rw [h] at this; cases this
theorem ad_jn {c : Chk} {x : Smp} (hx : FitS [x]) (h : pkB [x] = true) : Ending.returned (.tuple #[chV (jnC c (pkC [x])), .bool (jnB c (pkC [x]))]) = .returned (.tuple #[chV (adC c x), .bool (adB c x)]) := by
  obtain ⟨h1, h2⟩ := so_yes (c := pkC [x]) ⟨hx, h, rfl⟩
  have : jnB c (pkC [x]) = adB c x := by unfold jnB adB; rw [h1, h2, Bool.and_true]
  unfold jnC adC
  rw [this, h2]

theorem cellsS_G (l : List Smp) : cellsS l = cellsG (fun x : Smp => [.int .i64 x.1, .float .f64 x.2]) l := rfl
theorem SRow.srcA {w : World} {B : Nat} {ao : Option Addr} {l : List Smp} (h : SRow w B ao l) : SrcA 2 w ao l.length (cellsS l) := by
  refine ⟨cellsS_length l, fun e => ?_, fun ad e j u hu => ?_⟩
  · subst e
    rcases Nat.eq_zero_or_pos l.length with h0 | h0
    · exact h0
    · obtain ⟨b, off, e, _⟩ := h h0; cases e
  · have hj := (List.getElem?_eq_some_iff.1 hu).1
    rw [cellsS_length] at hj
    obtain ⟨ad', e', _, hc⟩ := h.src (by omega)
    rw [e] at e'
    injection e' with e'
    subst e'
    exact hc j u hu

set_option maxHeartbeats 4000000 in
set_option maxRecDepth 100000 in
theorem join36 (s1 : ByteArray) (a1 b1 c1 : Int) (s2 : ByteArray) (a2 b2 c2 : Int) (h1 : s1.size ≤ 1048576) (h2 : s2.size ≤ 1048576) (w : World) :
    Calls Try.prog 96 #[.agg #[.string s1, .int .i64 a1, .int .i64 b1, .int .i64 c1], .agg #[.string s2, .int .i64 a2, .int .i64 b2, .int .i64 c2]] w (JnEnd (s1, a1, b1, c1) (s2, a2, b2, c2) w) := by
  have HB0 := Lib.hid ((((Below.refl w.heap.size w).alloc (Nat.le_refl _) (.cells #[.string s1, .int .i64 a1, .int .i64 b1, .int .i64 c1] 85)).alloc (by simp) (.cells #[.string s2, .int .i64 a2, .int .i64 b2, .int .i64 c2] 85)).alloc (by simp; omega) (.cells #[zS, zI, zI, zI] 85))
  have HXd := Lib.hid ((Bx.new (w.alloc (.cells #[.string s1, .int .i64 a1, .int .i64 b1, .int .i64 c1] 85)) (.string s2) (.int .i64 a2) (.int .i64 b2) (.int .i64 c2) 85).alloc (.cells #[zS, zI, zI, zI] 85))
  have HXr := Lib.hid (Bx.new ((w.alloc (.cells #[.string s1, .int .i64 a1, .int .i64 b1, .int .i64 c1] 85)).alloc (.cells #[.string s2, .int .i64 a2, .int .i64 b2, .int .i64 c2] 85)) zS zI zI zI 85)
  simp only [World.size_alloc] at HXd HXr
  have HC := Lib.hid (fun W => of27 s1 a1 b1 c1 h1 W)
  have HD := Lib.hid (fun W => of27 s2 a2 b2 c2 h2 W)
  unfold SoEnd at HC HD
  unfold JnEnd
  by_cases hc : soB (s1, a1, b1, c1) = true
  case neg =>
    have hc : soB (s1, a1, b1, c1) = false := by simpa using hc
    have HN := Lib.hid (jn_no (jn_no1 (d := (s2, a2, b2, c2)) hc))
    rw [hc] at HC
    generalize soL (s1, a1, b1, c1) = l at HC
    clear hc HD HXd
    go_enter Try.func96, Try.ntmps96
    go_wp2_with fail
    refine (HC.out _).mono ?_
    rintro e w1 ⟨⟨ao, cp, rfl, _⟩, hb1⟩
    have hbs := HB0.out.trans (hb1.mono HB0.out.size)
    obtain ⟨z0, z1, z2, z3, f0, f1, f2, f3⟩ := (HXr.out.below hb1).cells
    clear hb1
    go_wp2
    exact bodyPost_ret (v := .tuple #[.agg #[zS, zI, zI, zI], .bool false]) (by simp [results, Try.results96, go_sem, z0, z1, z2, z3]) rfl ⟨HN.out, below4 hbs (by omega)⟩
  by_cases hd : soB (s2, a2, b2, c2) = true
  case neg =>
    have hd : soB (s2, a2, b2, c2) = false := by simpa using hd
    have HN := Lib.hid (jn_no (jn_no2 (c := (s1, a1, b1, c1)) hd))
    rw [hc] at HC
    rw [hd] at HD
    generalize soL (s1, a1, b1, c1) = l at HC
    generalize soL (s2, a2, b2, c2) = l2 at HD
    clear hc hd
    go_enter Try.func96, Try.ntmps96
    go_wp2_with fail
    refine (HC.out _).mono ?_
    rintro e w1 ⟨⟨ao, cp, rfl, _⟩, hb1⟩
    have HB1 := Lib.hid (HB0.out.trans (hb1.mono HB0.out.size))
    have HR1 := Lib.hid (HXr.out.below hb1)
    obtain ⟨y0, y1, y2, y3, _⟩ := (HXd.out.below hb1).cells
    clear hb1
    go_wp2_with fail
    refine (HD.out _).mono ?_
    rintro e w2 ⟨⟨bo, cp2, rfl, _⟩, hb2⟩
    have hbs := HB1.out.trans (hb2.mono HB1.out.size)
    obtain ⟨z0, z1, z2, z3, f0, f1, f2, f3⟩ := (HR1.out.below hb2).cells
    clear hb2
    go_wp2
    exact bodyPost_ret (v := .tuple #[.agg #[zS, zI, zI, zI], .bool false]) (by simp [results, Try.results96, go_sem, z0, z1, z2, z3]) rfl ⟨HN.out, below4 hbs (by omega)⟩
  have HY := Lib.hid (jn_pk hc hd)
  obtain ⟨hf1, hn1⟩ := so_fit (s1, a1, b1, c1)
  obtain ⟨hf2, hn2⟩ := so_fit (s2, a2, b2, c2)
  rw [hc] at HC
  rw [hd] at HD
  generalize soL (s1, a1, b1, c1) = x at HC HY hf1 hn1
  generalize soL (s2, a2, b2, c2) = y at HD HY hf2 hn2
  have hn : (x ++ y).length ≤ 16 := by rw [List.length_append]; omega
  have HF := Lib.hid (hf1.append hf2)
  have HBe := Lib.hid (fun ao bo c d W h1 h2 => behind83 ao bo c d x y hn1 hn2 W h1 h2)
  have HPk := Lib.hid (fun ao c W h => pack23 ao c (x ++ y) HF.out (by omega) W h)
  unfold PkEnd at HPk
  obtain ⟨z, hz⟩ : ∃ z, z = x ++ y := ⟨_, rfl⟩
  rw [← hz] at HBe HPk HY hn
  clear hc hd hf1 hf2 hz HF
  generalize pkR z = q at HPk HY
  generalize pkB z = pb at HPk HY
  obtain ⟨s', d1, d2, d3⟩ := q
  unfold chV at HPk
  simp only at HPk
  go_enter Try.func96, Try.ntmps96
  go_wp2_with fail
  refine (HC.out _).mono ?_
  rintro e w1 ⟨⟨ao, cp, rfl, ho1⟩, hb1⟩
  have HS1 := Lib.hid (SRow.of_own ho1).2
  have HB1 := Lib.hid (HB0.out.trans (hb1.mono HB0.out.size))
  have HR1 := Lib.hid (HXr.out.below hb1)
  obtain ⟨y0, y1, y2, y3, _⟩ := (HXd.out.below hb1).cells
  clear hb1 ho1
  go_wp2_with fail
  refine (HD.out _).mono ?_
  rintro e w2 ⟨⟨bo, cp2, rfl, ho2⟩, hb2⟩
  have HS2 := Lib.hid (SRow.of_own ho2).2
  have HS1 := Lib.hid (HS1.out.after hb2)
  have HB2 := Lib.hid (HB1.out.trans (hb2.mono HB1.out.size))
  have HR2 := Lib.hid (HR1.out.below hb2)
  clear hb2 ho2
  go_wp2_with fail
  refine (HBe.out ao bo cp cp2 _ HS1.out HS2.out).mono ?_
  rintro e w3 ⟨⟨go, k, rfl, hr⟩, hb3⟩
  have HS3 := Lib.hid hr
  have HB3 := Lib.hid (HB2.out.trans (hb3.mono HB2.out.size))
  have HR3 := Lib.hid (HR2.out.below hb3)
  clear hb3 hr
  go_wp2_with fail
  refine (HPk.out go k _ HS3.out).mono ?_
  rintro e w4 ⟨rfl, hb4⟩
  have hbs := HB3.out.trans (hb4.mono HB3.out.size)
  obtain ⟨z0, z1, z2, z3, f0, f1, f2, f3⟩ := (HR3.out.below hb4).cells
  clear hb4
  go_wp2
  exact bodyPost_ret (v := .tuple #[.agg #[.string s', .int .i64 d1, .int .i64 d2, .int .i64 d3], .bool pb]) (by simp [results, Try.results96, go_sem, z0, z1, z2, z3]) rfl ⟨HY.out, below4 hbs (by omega)⟩

end Go.Proofs.Yteiefngamccapaa
namespace Go.Proofs.Yteiefngamccapaa
open Go.RowKit Go.Deep

/-- What samplesOfAll answers. -/
noncomputable def serR (l : List Chk) : List Smp := if allB l = true then serL l else []
theorem serR_yes {l : List Chk} (h : allB l = true) : serR l = serL l := by unfold serR; rw [if_pos h]
theorem serR_no {l : List Chk} (h : allB l = false) : serR l = [] := by unfold serR; rw [if_neg (by rw [h]; decide)]
def AllEnd (l : List Chk) (w : World) (e : Ending) (w' : World) : Prop :=
  (∃ (ao : Option Addr) (cp : Nat), e = .returned (.tuple #[.slice ao (serR l).length cp, .bool (allB l)]) ∧ w'.ownsRow w.heap.size 42 2 (.slice ao (serR l).length cp) (serR l).length (cellsS (serR l))) ∧ Below w.heap.size w w'

set_option maxHeartbeats 4000000 in
set_option maxRecDepth 100000 in
theorem ofAll (ao : Option Addr) (cap : Nat) (l : List Chk) (hn : l.length ≤ 6) (hF : FitC l 1048576) (w : World) (h : CRow w w.heap.size ao l) :
    Calls Try.prog 50 #[.slice ao l.length cap] w (AllEnd l w) := by
  have H := Lib.hid h
  have HF := Lib.hid hF
  clear h hF
  obtain ⟨i0, hi, hz0, hz1, hz2⟩ := info_parts Try.info42
  go_enter Try.func50, Try.ntmps50
  go_wp2
  go_loopw [4, 11] (fun v i wr => ∃ k : Nat, k ≤ l.length ∧ i = .int .i64 k ∧ Hid (allTo l k) ∧ Hid (wr.ownsRow w.heap.size 42 2 v (serL (l.take k)).length (cellsS (serL (l.take k)))) ∧ Hid (Below w.heap.size w wr)) (fun _ i _ => l.length - (intOf i).toNat)
  case atStart => exact ⟨0, Nat.zero_le _, rfl, Lib.hid (allTo_zero l), Lib.hid (World.ownsRow_nil _ _ _ _), Lib.hid (Below.refl _ _)⟩
  case round =>
    obtain ⟨k, hk, rfl, hA, hO, hB⟩ := hrel
    by_cases hlt : k < l.length
    · obtain ⟨b, off, hao, hbl, hc0, hc1, hc2, hc3⟩ := (H.out.below hB.out).oneC hlt
      subst hao
      have hsz := HF.out.at hlt
      have HQ := Lib.hid (serL_snoc hlt)
      have HS := Lib.hid (fun (h : soB l[k] = true) => allTo_succ hA.out (fun _ : k < l.length => h))
      have HN := Lib.hid (fun (h : soB l[k] = false) => allB_no hlt h)
      have hp := serL_take_len (cs := l) k hn
      have hq := (so_fit l[k]).2
      generalize l[k] = x at hc0 hc1 hc2 hc3 hsz HQ HS HN hq
      obtain ⟨s, x1, x2, x3⟩ := x
      simp only at hc0 hc1 hc2 hc3 hsz
      have HC := Lib.hid (fun W => of27 s x1 x2 x3 hsz W)
      unfold SoEnd at HC
      have HB0 := Lib.hid (hB.out.alloc hB.out.size (.cells #[.string s, .int .i64 x1, .int .i64 x2, .int .i64 x3] 85))
      have HO0 := Lib.hid (hO.out.alloc (.cells #[.string s, .int .i64 x1, .int .i64 x2, .int .i64 x3] 85))
      by_cases hs : soB (s, x1, x2, x3) = true
      case neg =>
        have hs : soB (s, x1, x2, x3) = false := by simpa using hs
        have hal := HN.out hs
        rw [hs] at HC
        generalize soL (s, x1, x2, x3) = y at HC
        clear hs
        go_wp2_with fail
        refine (HC.out _).mono ?_
        rintro e w1 ⟨⟨bo, cp, rfl, _⟩, hb1⟩
        have HB1 := Lib.hid (HB0.out.trans (hb1.mono HB0.out.size))
        clear hb1
        go_wp2
        go_ret2
        refine ⟨⟨none, 0, ?_, ?_⟩, HB1.out⟩
        · rw [serR_no hal, hal]; rfl
        · rw [serR_no hal]; exact World.ownsRow_nil _ _ _ _
      have HS2 := Lib.hid (HS.out hs)
      rw [hs] at HC
      generalize soL (s, x1, x2, x3) = y at HC HQ hq
      go_wp2_with fail
      refine (HC.out _).mono ?_
      rintro e w1 ⟨⟨bo, cp, rfl, ho⟩, hb1⟩
      have HY := Lib.hid (SRow.of_own ho).2.srcA
      have HB1 := Lib.hid (HB0.out.trans (hb1.mono HB0.out.size))
      have HO1 := Lib.hid (own_below HO0.out hb1)
      clear hb1 ho HO0 HB0 hc0 hc1 hc2 hc3
      go_wp2_with (at_builtin; refine wpList_append_any _ rfl _ _ rfl Try.underlying50 hi hz0 hz1 hz2 rfl (by decide) w.heap.size _ _ _ rfl HO1.out _ _ _ _ rfl HY.out cellsS_one ?k3 ?k4 ?k5 ?_)
      case k3 => unfold maxLen; omega
      case k4 => omega
      case k5 => exact HB1.out.size
      intro v' w2 hown' hgrow
      have HO2 : Hid (w2.ownsRow w.heap.size 42 2 v' (serL (l.take (k + 1))).length (cellsS (serL (l.take (k + 1))))) := Lib.hid (by rw [HQ.out, cellsS_append, List.length_append]; exact hown')
      have HB2 := Lib.hid (own_grown HB1.out HO1.out hgrow (Nat.le_refl _))
      clear hown' hgrow HO1 HB1 HY
      go_wp2
      go_roundw
      case rel => exact ⟨k + 1, by omega, by go_num, HS2, HO2, HB2⟩
      case measure => simp [intOf]; omega
    · obtain rfl : k = l.length := by omega
      have hal := Lib.hid (allB_yes hA.out)
      have ho := hO.out
      rw [serL_all] at ho
      have HS := Lib.hid (serR_yes hal.out)
      obtain ⟨ao', c', hv⟩ := own_slice ho
      subst hv
      have HO := Lib.hid ho
      clear ho
      go_wp2
      go_ret2
      refine ⟨⟨ao', c', ?_, ?_⟩, hB.out⟩
      · rw [HS.out, hal.out] <;> rfl
      · rw [HS.out]; exact HO.out
end Go.Proofs.Yteiefngamccapaa
namespace Go.Proofs.Yteiefngamccapaa
open Go.RowKit Go.Deep

def GsEnd (l : List Chk) (fl : Int) (w : World) (e : Ending) (w' : World) : Prop := e = .returned (.bool (gsB l fl)) ∧ Below w.heap.size w w'

set_option maxHeartbeats 4000000 in
set_option maxRecDepth 100000 in
theorem goodI (ao : Option Addr) (cap : Nat) (l : List Chk) (fl : Int) (hn : l.length ≤ 1048576) (hF : FitC l 1048576) (w : World) (h : CRow w w.heap.size ao l) :
    Calls Try.prog 15 #[.agg #[.slice ao l.length cap, .int .i64 fl]] w (GsEnd l fl w) := by
  have HB0 := Lib.hid ((Below.refl w.heap.size w).alloc (Nat.le_refl _) (.cells #[.slice ao l.length cap, .int .i64 fl] 29))
  have HX0 := Lib.hid (Bt.new w (.slice ao l.length cap) (.int .i64 fl) 29)
  have H := Lib.hid (GR.after h HB0.out)
  have HF := Lib.hid hF
  clear h hF
  unfold GsEnd
  by_cases h6 : l.length ≤ 6
  case neg =>
    have HG := Lib.hid (gs_long (fl := fl) (show 6 < l.length by omega))
    go_enter Try.func15, Try.ntmps15
    go_wp2
    go_ret
    exact ⟨ret_bool HG.out.symm, HB0.out⟩
  by_cases hb : (decide (-1000000 ≤ fl) && decide (fl ≤ 1000000)) = true
  case neg =>
    have hb : (decide (-1000000 ≤ fl) && decide (fl ≤ 1000000)) = false := by simpa using hb
    have HG := Lib.hid (gs_floor (cs := l) hb)
    have HI := Lib.hid (fun W => in87 fl false hb W)
    clear hb
    go_enter Try.func15, Try.ntmps15
    go_wp2_with fail
    refine (HI.out _).mono ?_
    rintro e w1 ⟨rfl, rfl⟩
    go_wp2
    go_ret
    exact ⟨ret_bool HG.out.symm, HB0.out⟩
  have HI := Lib.hid (fun W => in87 fl true hb W)
  have HEm := Lib.hid (fun W hW => emAh ao cap l hn W hW)
  by_cases hem : emB l = true
  · have HG := Lib.hid (gs_em (fl := fl) hem)
    rw [hem] at HEm
    clear hem hb
    go_enter Try.func15, Try.ntmps15
    go_wp2_with fail
    refine (HI.out _).mono ?_
    rintro e w1 ⟨rfl, rfl⟩
    go_wp2_with fail
    refine (HEm.out _ H.out).mono ?_
    rintro e w2 ⟨rfl, rfl⟩
    go_wp2
    go_ret
    exact ⟨ret_bool HG.out.symm, HB0.out⟩
  have hem : emB l = false := by simpa using hem
  have HGo := Lib.hid (fun h4 h5 h7 => gs_yes (cs := l) (fl := fl) h6 hb hem h4 h5 h7)
  rw [hem] at HEm
  clear hem hb
  have HA := Lib.hid (fun W hW => ofAll ao cap l h6 HF.out W hW)
  unfold AllEnd at HA
  by_cases hal : allB l = true
  case neg =>
    have hal : allB l = false := by simpa using hal
    have HG := Lib.hid (gs_all (fl := fl) hal)
    rw [hal] at HA
    generalize serR l = r at HA
    clear hal
    go_enter Try.func15, Try.ntmps15
    go_wp2_with fail
    refine (HI.out _).mono ?_
    rintro e w1 ⟨rfl, rfl⟩
    go_wp2_with fail
    refine (HEm.out _ H.out).mono ?_
    rintro e w2 ⟨rfl, rfl⟩
    go_wp2_with fail
    refine (HA.out _ H.out).mono ?_
    rintro e w3 ⟨⟨bo, cp, rfl, _⟩, hb3⟩
    have HB3 := Lib.hid (HB0.out.trans (hb3.mono HB0.out.size))
    clear hb3
    go_wp2
    go_ret
    exact ⟨ret_bool HG.out.symm, HB3.out⟩
  rw [hal, serR_yes hal] at HA
  have HGo := Lib.hid (fun h5 h7 => HGo.out hal h5 h7)
  have HGn := Lib.hid (fun h => gs_good (cs := l) (fl := fl) h)
  have HFi := Lib.hid (fun h h2 => gs_first (cs := l) (fl := fl) h h2)
  have HFs := Lib.hid (serL_fit l)
  have hlen := serL_len l
  have HGd := Lib.hid (fun (o : Option Addr) (k : Nat) W hW => good25 o k (serL l) HFs.out (by omega) W hW)
  have h48 : (serL l).length ≤ 48 := by omega
  clear hal hlen
  generalize serL l = x at HA HGo HGn HFi HFs HGd h48
  by_cases hg : goodS x = true
  case neg =>
    have hg : goodS x = false := by simpa using hg
    have HG := Lib.hid (HGn.out hg)
    rw [hg] at HGd
    clear hg
    go_enter Try.func15, Try.ntmps15
    go_wp2_with fail
    refine (HI.out _).mono ?_
    rintro e w1 ⟨rfl, rfl⟩
    go_wp2_with fail
    refine (HEm.out _ H.out).mono ?_
    rintro e w2 ⟨rfl, rfl⟩
    go_wp2_with fail
    refine (HA.out _ H.out).mono ?_
    rintro e w3 ⟨⟨bo, cp, rfl, ho⟩, hb3⟩
    have HS3 := Lib.hid (SRow.of_own ho).2
    have HB3 := Lib.hid (HB0.out.trans (hb3.mono HB0.out.size))
    clear hb3 ho
    go_wp2_with fail
    refine (HGd.out bo cp _ HS3.out).mono ?_
    rintro e w4 ⟨rfl, hb4⟩
    have HB4 := Lib.hid (HB3.out.trans (hb4.mono HB3.out.size))
    clear hb4
    go_wp2
    go_ret
    exact ⟨ret_bool HG.out.symm, HB4.out⟩
  have HGo := Lib.hid (fun h7 => HGo.out hg h7)
  rw [hg] at HGd
  clear hg HGn
  go_enter Try.func15, Try.ntmps15
  go_wp2_with fail
  refine (HI.out _).mono ?_
  rintro e w1 ⟨rfl, rfl⟩
  go_wp2_with fail
  refine (HEm.out _ H.out).mono ?_
  rintro e w2 ⟨rfl, rfl⟩
  go_wp2_with fail
  refine (HA.out _ H.out).mono ?_
  rintro e w3 ⟨⟨bo, cp, rfl, ho⟩, hb3⟩
  have HS3 := Lib.hid (SRow.of_own ho).2
  have HB3 := Lib.hid (HB0.out.trans (hb3.mono HB0.out.size))
  have HX3 := Lib.hid (HX0.out.below hb3)
  clear hb3 ho HX0
  go_wp2_with fail
  refine (HGd.out bo cp _ HS3.out).mono ?_
  rintro e w4 ⟨rfl, hb4⟩
  have HB4 := Lib.hid (HB3.out.trans (hb4.mono HB3.out.size))
  have HS4 := Lib.hid (HS3.out.after hb4)
  obtain ⟨y0, y1, _⟩ := (HX3.out.below hb4).cells
  clear hb4 HX3 HS3 HB3
  by_cases h0 : x.length = 0
  · have hG := HGo.out (.inl h0)
    have HG := Lib.hid hG
    clear hG
    rw [h0]
    go_wp2_with fail
    go_quiet (fail)
    have HD := Lib.hid (below_drewN HB4.out nq)
    go_wp2
    go_ret
    exact ⟨ret_bool HG.out.symm, HD.out⟩
  · obtain ⟨b, off, hbo, hbl, hc⟩ := HS4.out.tv (show 0 < x.length by omega)
    subst hbo
    have c0 := (hc 0 (by omega)).1
    rw [Nat.zero_mul, Nat.add_zero] at c0
    have hne : ((x.length : Int) == 0) = false := beq_eq_false_iff_ne.2 (by omega)
    have hpos : 0 < x.length := by omega
    have HFi := Lib.hid (HFi.out hpos)
    have HGo := Lib.hid (fun h => HGo.out (.inr h))
    clear hc
    generalize tF x 0 = t at c0 HFi HGo
    by_cases hf : fl ≤ t
    · have HG := Lib.hid (HGo.out hf)
      go_wp2_with fail
      go_quiet (fail)
      have HD := Lib.hid (below_drewN HB4.out nq)
      go_wp2
      go_ret
      exact ⟨ret_bool HG.out.symm, HD.out⟩
    · have HG := Lib.hid (HFi.out (by omega))
      go_wp2_with fail
      go_quiet (fail)
      have HD := Lib.hid (below_drewN HB4.out nq)
      go_wp2
      go_ret
      exact ⟨ret_bool (by rw [HG.out]; exact decide_eq_false (Int.not_le.2 hf)), HD.out⟩
end Go.Proofs.Yteiefngamccapaa
namespace Go.Proofs.Yteiefngamccapaa
open Go.RowKit Go.Deep

set_option maxHeartbeats 4000000 in
set_option maxRecDepth 100000 in
theorem allM (ao : Option Addr) (cap : Nat) (l : List Chk) (fl : Int) (hn : l.length ≤ 6) (hF : FitC l 1048576) (hal : allB l = true) (w : World) (h : CRow w w.heap.size ao l) :
    Calls Try.prog 61 #[.agg #[.slice ao l.length cap, .int .i64 fl]] w fun e w' => (∃ (bo : Option Addr) (cp : Nat), e = .returned (.slice bo (serL l).length cp) ∧ w'.ownsRow w.heap.size 42 2 (.slice bo (serL l).length cp) (serL l).length (cellsS (serL l))) ∧ Below w.heap.size w w' := by
  have HB0 := Lib.hid ((Below.refl w.heap.size w).alloc (Nat.le_refl _) (.cells #[.slice ao l.length cap, .int .i64 fl] 29))
  have H := Lib.hid (h.below ((Below.refl w.heap.size w).alloc (Nat.le_refl _) (.cells #[.slice ao l.length cap, .int .i64 fl] 29)))
  have H0 := Lib.hid h
  have HF := Lib.hid hF
  have HAl := Lib.hid hal
  clear h hF hal
  obtain ⟨i0, hi, hz0, hz1, hz2⟩ := info_parts Try.info42
  go_enter Try.func61, Try.ntmps61
  go_wp2
  go_loopw [3, 11] (fun v i wr => ∃ k : Nat, k ≤ l.length ∧ i = .int .i64 k ∧ Hid (wr.ownsRow w.heap.size 42 2 v (serL (l.take k)).length (cellsS (serL (l.take k)))) ∧ Hid (Below w.heap.size w wr)) (fun _ i _ => l.length - (intOf i).toNat)
  case atStart => exact ⟨0, Nat.zero_le _, rfl, Lib.hid (World.ownsRow_nil _ _ _ _), HB0⟩
  case round =>
    obtain ⟨k, hk, rfl, hO, hB⟩ := hrel
    by_cases hlt : k < l.length
    · obtain ⟨b, off, hao, hbl, hc0, hc1, hc2, hc3⟩ := (H0.out.below hB.out).oneC hlt
      subst hao
      have hsz := HF.out.at hlt
      have HQ := Lib.hid (serL_snoc hlt)
      have HI := Lib.hid (so_is (allB_at HAl.out hlt))
      have hp := serL_take_len (cs := l) k hn
      have hq := (so_fit l[k]).2
      generalize l[k] = x at hc0 hc1 hc2 hc3 hsz HQ HI hq
      obtain ⟨s, x1, x2, x3⟩ := x
      simp only at hc0 hc1 hc2 hc3 hsz
      have HC := Lib.hid (fun W => take82 s x1 x2 x3 hsz W)
      have HB0 := Lib.hid (hB.out.alloc hB.out.size (.cells #[.string s, .int .i64 x1, .int .i64 x2, .int .i64 x3] 85))
      have HO0 := Lib.hid (hO.out.alloc (.cells #[.string s, .int .i64 x1, .int .i64 x2, .int .i64 x3] 85))
      generalize soL (s, x1, x2, x3) = y at HQ HI hq
      go_wp2_with fail
      refine (HC.out _).mono ?_
      rintro e w1 ⟨⟨bo, n, cp, rfl, hn60, hno⟩ | ⟨ys, bo, cp, hF, h60, rfl, ho, hgg⟩, hb1⟩
      · exact absurd HI.out (hno _)
      obtain rfl := hgg _ HI.out
      have HY := Lib.hid (SRow.of_own ho).2.srcA
      have HB1 := Lib.hid (HB0.out.trans (hb1.mono HB0.out.size))
      have HO1 := Lib.hid (own_below HO0.out hb1)
      clear hb1 ho HO0 HB0 hc0 hc1 hc2 hc3 hgg hF
      go_wp2_with (at_builtin; refine wpList_append_any _ rfl _ _ rfl Try.underlying50 hi hz0 hz1 hz2 rfl (by decide) w.heap.size _ _ _ rfl HO1.out _ _ _ _ rfl HY.out cellsS_one ?k3 ?k4 ?k5 ?_)
      case k3 => unfold maxLen; omega
      case k4 => omega
      case k5 => exact HB1.out.size
      intro v' w2 hown' hgrow
      have HO2 : Hid (w2.ownsRow w.heap.size 42 2 v' (serL (l.take (k + 1))).length (cellsS (serL (l.take (k + 1))))) := Lib.hid (by rw [HQ.out, cellsS_append, List.length_append]; exact hown')
      have HB2 := Lib.hid (own_grown HB1.out HO1.out hgrow (Nat.le_refl _))
      clear hown' hgrow HO1 HB1 HY
      go_wp2
      go_roundw
      case rel => exact ⟨k + 1, by omega, by go_num, HO2, HB2⟩
      case measure => simp [intOf]; omega
    · obtain rfl : k = l.length := by omega
      have ho := hO.out
      rw [serL_all] at ho
      obtain ⟨ao', c', hv⟩ := own_slice ho
      subst hv
      have HO := Lib.hid ho
      clear ho
      go_wp2
      go_ret
      exact ⟨⟨ao', c', rfl, HO.out⟩, hB.out⟩
end Go.Proofs.Yteiefngamccapaa
