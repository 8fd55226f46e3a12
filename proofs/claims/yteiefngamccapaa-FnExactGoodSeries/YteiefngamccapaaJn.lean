/- Contracts of JoinChunks and AddSample, in the program and in the model, over this seat's translation. -/
import Derived.Test.YteiefngamccapaaCp
import Derived.Test.YteiefngamccapaaGr
import Derived.Test.YteiefngamccapaaCv
namespace Go.Proofs.Yteiefngamccapaa
open Go.RowKit Go.Deep

/-- Whether two chunks are joined, and to what. -/
noncomputable def jnB (c d : Chk) : Bool := soB c && soB d && pkB (soL c ++ soL d)
noncomputable def jnC (c d : Chk) : Chk := if jnB c d = true then pkC (soL c ++ soL d) else zeroC
def JnEnd (c d : Chk) (w : World) (e : Ending) (w' : World) : Prop := e = .returned (.tuple #[chV (jnC c d), .bool (jnB c d)]) ∧ Below w.heap.size w w'
theorem jn_no {c d : Chk} (h : jnB c d = false) : Ending.returned (.tuple #[.agg #[zS, zI, zI, zI], .bool false]) = .returned (.tuple #[chV (jnC c d), .bool (jnB c d)]) := by
  unfold jnC
  rw [h, if_neg (by decide)]; rfl
theorem jn_no1 {c d : Chk} (h : soB c = false) : jnB c d = false := by unfold jnB; simp [h]
theorem jn_no2 {c d : Chk} (h : soB d = false) : jnB c d = false := by unfold jnB; simp [h]
theorem jn_pk {c d : Chk} (h1 : soB c = true) (h2 : soB d = true) : Ending.returned (.tuple #[chV (pkR (soL c ++ soL d)), .bool (pkB (soL c ++ soL d))]) = .returned (.tuple #[chV (jnC c d), .bool (jnB c d)]) := by
  unfold jnC pkR
  have : jnB c d = pkB (soL c ++ soL d) := by unfold jnB; simp [h1, h2]
  rw [this]
/-- Whether a sample is added. -/
noncomputable def adB (c : Chk) (x : Smp) : Bool := soB c && pkB (soL c ++ [x])
noncomputable def adC (c : Chk) (x : Smp) : Chk := if adB c x = true then pkC (soL c ++ [x]) else zeroC
def AdEnd (c : Chk) (x : Smp) (w : World) (e : Ending) (w' : World) : Prop := e = .returned (.tuple #[chV (adC c x), .bool (adB c x)]) ∧ Below w.heap.size w w'
theorem ad_no {c : Chk} {x : Smp} (h : adB c x = false) : Ending.returned (.tuple #[.agg #[zS, zI, zI, zI], .bool false]) = .returned (.tuple #[chV (adC c x), .bool (adB c x)]) := by
  unfold adC
  rw [h, if_neg (by decide)]; rfl
theorem ad_no1 {c : Chk} {x : Smp} (h : soB c = false) : adB c x = false := by unfold adB; simp [h]
theorem ad_pk {c : Chk} {x : Smp} (h1 : soB c = true) : Ending.returned (.tuple #[chV (pkR (soL c ++ [x])), .bool (pkB (soL c ++ [x]))]) = .returned (.tuple #[chV (adC c x), .bool (adB c x)]) := by
  unfold adC pkR
  have : adB c x = pkB (soL c ++ [x]) := by unfold adB; simp [h1]
  rw [this]
/-- One sample is good where its time is within bounds; joined behind others it is added. -/
theorem good_right {a b : List Smp} (h : goodS (a ++ b) = true) : goodS b = true := by
  have := good_drop h a.length
  rwa [List.drop_left] at this
theorem ad_one {c : Chk} {x : Smp} (h : pkB [x] = false) : adB c x = false := by
  unfold adB
  cases hs : soB c with
  | false => rfl
  | true =>
    cases hp : pkB (soL c ++ [x]) with
    | false => rfl
    | true =>
      have := pkB_good (l := [x]) (by simp) (good_right (pkB_fit hp).2)
      rw [h] at this; cases this
theorem ad_jn {c : Chk} {x : Smp} (hx : FitS [x]) (h : pkB [x] = true) : Ending.returned (.tuple #[chV (jnC c (pkC [x])), .bool (jnB c (pkC [x]))]) = .returned (.tuple #[chV (adC c x), .bool (adB c x)]) := by
  obtain ⟨h1, h2⟩ := so_yes (c := pkC [x]) ⟨hx, h, rfl⟩
  have : jnB c (pkC [x]) = adB c x := by unfold jnB adB; rw [h1, h2, Bool.and_true]
  unfold jnC adC
  rw [this, h2]

theorem cellsS_G (l : List Smp) : cellsS l = cellsG (fun x : Smp => [.int .i64 x.1, .float .f64 x.2]) l := rfl
theorem SRow.srcA {w : World} {B : Nat} {ao : Option Addr} {l : List Smp} (h : SRow w B ao l) : SrcA 2 w ao l.length (cellsS l) := by
  refine ⟨cellsS_length l, fun e => ?_, fun ad e j u hu => ?_⟩
  · subst e
    rcases Nat.eq_zero_or_pos l.length with h0 | h0
    · exact h0
    · obtain ⟨b, off, e, _⟩ := h h0; cases e
  · have hj := (List.getElem?_eq_some_iff.1 hu).1
    rw [cellsS_length] at hj
    obtain ⟨ad', e', _, hc⟩ := h.src (by omega)
    rw [e] at e'
    injection e' with e'
    subst e'
    exact hc j u hu

set_option maxHeartbeats 4000000 in
set_option maxRecDepth 100000 in
theorem join36 (s1 : ByteArray) (a1 b1 c1 : Int) (s2 : ByteArray) (a2 b2 c2 : Int) (h1 : s1.size ≤ 1048576) (h2 : s2.size ≤ 1048576) (w : World) :
    Calls Try.prog 96 #[.agg #[.string s1, .int .i64 a1, .int .i64 b1, .int .i64 c1], .agg #[.string s2, .int .i64 a2, .int .i64 b2, .int .i64 c2]] w (JnEnd (s1, a1, b1, c1) (s2, a2, b2, c2) w) := by
  have HB0 := Lib.hid ((((Below.refl w.heap.size w).alloc (Nat.le_refl _) (.cells #[.string s1, .int .i64 a1, .int .i64 b1, .int .i64 c1] 85)).alloc (by simp) (.cells #[.string s2, .int .i64 a2, .int .i64 b2, .int .i64 c2] 85)).alloc (by simp; omega) (.cells #[zS, zI, zI, zI] 85))
  have HXd := Lib.hid ((Bx.new (w.alloc (.cells #[.string s1, .int .i64 a1, .int .i64 b1, .int .i64 c1] 85)) (.string s2) (.int .i64 a2) (.int .i64 b2) (.int .i64 c2) 85).alloc (.cells #[zS, zI, zI, zI] 85))
  have HXr := Lib.hid (Bx.new ((w.alloc (.cells #[.string s1, .int .i64 a1, .int .i64 b1, .int .i64 c1] 85)).alloc (.cells #[.string s2, .int .i64 a2, .int .i64 b2, .int .i64 c2] 85)) zS zI zI zI 85)
  simp only [World.size_alloc] at HXd HXr
  have HC := Lib.hid (fun W => of27 s1 a1 b1 c1 h1 W)
  have HD := Lib.hid (fun W => of27 s2 a2 b2 c2 h2 W)
  unfold SoEnd at HC HD
  unfold JnEnd
  by_cases hc : soB (s1, a1, b1, c1) = true
  case neg =>
    have hc : soB (s1, a1, b1, c1) = false := by simpa using hc
    have HN := Lib.hid (jn_no (jn_no1 (d := (s2, a2, b2, c2)) hc))
    rw [hc] at HC
    generalize soL (s1, a1, b1, c1) = l at HC
    clear hc HD HXd
    go_enter Try.func96, Try.ntmps96
    go_wp2_with fail
    refine (HC.out _).mono ?_
    rintro e w1 ⟨⟨ao, cp, rfl, _⟩, hb1⟩
    have hbs := HB0.out.trans (hb1.mono HB0.out.size)
    obtain ⟨z0, z1, z2, z3, f0, f1, f2, f3⟩ := (HXr.out.below hb1).cells
    clear hb1
    go_wp2
    exact bodyPost_ret (v := .tuple #[.agg #[zS, zI, zI, zI], .bool false]) (by simp [results, Try.results96, go_sem, z0, z1, z2, z3]) rfl ⟨HN.out, below4 hbs (by omega)⟩
  by_cases hd : soB (s2, a2, b2, c2) = true
  case neg =>
    have hd : soB (s2, a2, b2, c2) = false := by simpa using hd
    have HN := Lib.hid (jn_no (jn_no2 (c := (s1, a1, b1, c1)) hd))
    rw [hc] at HC
    rw [hd] at HD
    generalize soL (s1, a1, b1, c1) = l at HC
    generalize soL (s2, a2, b2, c2) = l2 at HD
    clear hc hd
    go_enter Try.func96, Try.ntmps96
    go_wp2_with fail
    refine (HC.out _).mono ?_
    rintro e w1 ⟨⟨ao, cp, rfl, _⟩, hb1⟩
    have HB1 := Lib.hid (HB0.out.trans (hb1.mono HB0.out.size))
    have HR1 := Lib.hid (HXr.out.below hb1)
    obtain ⟨y0, y1, y2, y3, _⟩ := (HXd.out.below hb1).cells
    clear hb1
    go_wp2_with fail
    refine (HD.out _).mono ?_
    rintro e w2 ⟨⟨bo, cp2, rfl, _⟩, hb2⟩
    have hbs := HB1.out.trans (hb2.mono HB1.out.size)
    obtain ⟨z0, z1, z2, z3, f0, f1, f2, f3⟩ := (HR1.out.below hb2).cells
    clear hb2
    go_wp2
    exact bodyPost_ret (v := .tuple #[.agg #[zS, zI, zI, zI], .bool false]) (by simp [results, Try.results96, go_sem, z0, z1, z2, z3]) rfl ⟨HN.out, below4 hbs (by omega)⟩
  have HY := Lib.hid (jn_pk hc hd)
  obtain ⟨hf1, hn1⟩ := so_fit (s1, a1, b1, c1)
  obtain ⟨hf2, hn2⟩ := so_fit (s2, a2, b2, c2)
  rw [hc] at HC
  rw [hd] at HD
  generalize soL (s1, a1, b1, c1) = x at HC HY hf1 hn1
  generalize soL (s2, a2, b2, c2) = y at HD HY hf2 hn2
  have hn : (x ++ y).length ≤ 16 := by rw [List.length_append]; omega
  have HF := Lib.hid (hf1.append hf2)
  have HBe := Lib.hid (fun ao bo c d W h1 h2 => behind83 ao bo c d x y hn1 hn2 W h1 h2)
  have HPk := Lib.hid (fun ao c W h => pack23 ao c (x ++ y) HF.out (by omega) W h)
  unfold PkEnd at HPk
  obtain ⟨z, hz⟩ : ∃ z, z = x ++ y := ⟨_, rfl⟩
  rw [← hz] at HBe HPk HY hn
  clear hc hd hf1 hf2 hz HF
  generalize pkR z = q at HPk HY
  generalize pkB z = pb at HPk HY
  obtain ⟨s', d1, d2, d3⟩ := q
  unfold chV at HPk
  simp only at HPk
  go_enter Try.func96, Try.ntmps96
  go_wp2_with fail
  refine (HC.out _).mono ?_
  rintro e w1 ⟨⟨ao, cp, rfl, ho1⟩, hb1⟩
  have HS1 := Lib.hid (SRow.of_own ho1).2
  have HB1 := Lib.hid (HB0.out.trans (hb1.mono HB0.out.size))
  have HR1 := Lib.hid (HXr.out.below hb1)
  obtain ⟨y0, y1, y2, y3, _⟩ := (HXd.out.below hb1).cells
  clear hb1 ho1
  go_wp2_with fail
  refine (HD.out _).mono ?_
  rintro e w2 ⟨⟨bo, cp2, rfl, ho2⟩, hb2⟩
  have HS2 := Lib.hid (SRow.of_own ho2).2
  have HS1 := Lib.hid (HS1.out.after hb2)
  have HB2 := Lib.hid (HB1.out.trans (hb2.mono HB1.out.size))
  have HR2 := Lib.hid (HR1.out.below hb2)
  clear hb2 ho2
  go_wp2_with fail
  refine (HBe.out ao bo cp cp2 _ HS1.out HS2.out).mono ?_
  rintro e w3 ⟨⟨go, k, rfl, hr⟩, hb3⟩
  have HS3 := Lib.hid hr
  have HB3 := Lib.hid (HB2.out.trans (hb3.mono HB2.out.size))
  have HR3 := Lib.hid (HR2.out.below hb3)
  clear hb3 hr
  go_wp2_with fail
  refine (HPk.out go k _ HS3.out).mono ?_
  rintro e w4 ⟨rfl, hb4⟩
  have hbs := HB3.out.trans (hb4.mono HB3.out.size)
  obtain ⟨z0, z1, z2, z3, f0, f1, f2, f3⟩ := (HR3.out.below hb4).cells
  clear hb4
  go_wp2
  exact bodyPost_ret (v := .tuple #[.agg #[.string s', .int .i64 d1, .int .i64 d2, .int .i64 d3], .bool pb]) (by simp [results, Try.results96, go_sem, z0, z1, z2, z3]) rfl ⟨HY.out, below4 hbs (by omega)⟩

end Go.Proofs.Yteiefngamccapaa
