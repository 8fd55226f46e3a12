/- The walk of the law FnLists: for every two lists of bytes its call returns true and writes nothing that was there. -/
import Derived.Test.YtckdfckkkbkooaaDr
namespace Go.Proofs.Ytckdfckkkbkooaa
open Go.RowKit Go.Deep

theorem fits_parts {l : List Int} (h : fitsL l = true) : l.length ≤ 60 ∧ (strE l).size ≤ 400 := by
  unfold fitsL at h
  simp only [Bool.and_eq_true, decide_eq_true_eq] at h
  exact h
/-- A list is read back from its bytes. -/
theorem rl_put {l : List Int} (hx : ∀ x ∈ l, In64 x) (h : fitsL l = true) : rlB (putF l) = true ∧ rlX (putF l) = l := by
  obtain ⟨h1, h2⟩ := fits_parts h
  have ht : TR (putF l) (code l) := by
    rw [putF_yes h]
    refine ⟨h2, ?_, by rw [code_len]; exact h1, code_fit hx⟩
    unfold strE enc; simp
  obtain ⟨e1, e2⟩ := rl_yes ht
  exact ⟨e1, by rw [e2, decode_code hx]⟩
/-- What is read is told as the same bytes. -/
theorem put_rl {t : ByteArray} (h : rlB t = true) : fitsL (rlX t) = true ∧ putF (rlX t) = t := by
  have he : ∃ us, TR t us := by
    by_cases h' : ∃ us, TR t us
    · exact h'
    · rw [(rl_no fun us hu => h' ⟨us, hu⟩).1] at h; cases h
  obtain ⟨us, hu⟩ := he
  rw [(rl_yes hu).2]
  have hs : strE (decode us) = t := by
    unfold strE enc
    rw [code_decode hu.2.2.2, ← hu.2.1]
  have hf : fitsL (decode us) = true := by
    unfold fitsL
    rw [hs, decode_len]
    simp only [Bool.and_eq_true, decide_eq_true_eq]
    exact ⟨hu.2.2.1, hu.1⟩
  exact ⟨hf, by rw [putF_yes hf, hs]⟩
theorem putF_small (l : List Int) : (putF l).size ≤ 400 := by
  cases hf : fitsL l with
  | false => rw [putF_no hf]; decide
  | true => rw [putF_yes hf]; exact (fits_parts hf).2

set_option maxRecDepth 100000 in
set_option maxHeartbeats 8000000 in
theorem walk_fnLists (w : World) (ao : Option Addr) (c n : Nat) (bo : Option Addr) (d m : Nat) (ha : BRow w w.heap.size ao n) (hb : BRow w w.heap.size bo m) :
    Calls Try.prog 3 #[.slice ao n c, .slice bo m d] w fun e w' => e = .returned (.bool true) ∧ Below w.heap.size w w' := by
  have HA := Lib.hid ha
  have HBo := Lib.hid hb
  clear ha hb
  by_cases hbig : 1048576 < n + m
  · have hd : decide (1048576 < n + m) = true := by simpa using hbig
    go_enter Try.func3, Try.ntmps3
    go_wp2_with fail
    refine (big12 w ao bo n m c d).mono ?_
    rintro e w1 ⟨rfl, rfl⟩
    rw [hd]
    go_wp2
    go_ret
    exact ⟨rfl, Below.refl _ _⟩
  have hd : decide (1048576 < n + m) = false := by simpa using hbig
  go_enter Try.func3, Try.ntmps3
  go_wp2_with fail
  refine (big12 w ao bo n m c d).mono ?_
  rintro e w1 ⟨rfl, rfl⟩
  rw [hd]
  clear hd
  go_wp2_with fail
  refine (draw26 w ao n c HA.out (by omega)).mono ?_
  rintro e w1 ⟨lo, lc, l, hl61, rfl, hL, hb1⟩
  have HL := Lib.hid hL; have HB1 := Lib.hid hb1
  have P27 := Lib.hid (fun W a c (hi : IRow W W.heap.size a l) => putl27 a c l (by omega) W hi)
  have P28 := Lib.hid (fun W a c (hi : IRow W W.heap.size a l) => putl28 a c l (by omega) W hi)
  have HRl := Lib.hid (fun h => rl_put (l := l) hL.1 h)
  have hz := putF_small l
  clear hL hb1 HA
  generalize putF l = s at P27 P28 HRl hz
  generalize fitsL l = r at P27 P28 HRl
  have hrr : (r != r) = false := by cases r <;> rfl
  go_wp2_with fail
  refine (P27.out w1 lo lc HL.out).mono ?_
  rintro e w2 ⟨rfl, hb2⟩
  have HL2 := Lib.hid (HL.out.after hb2); have HB2 := Lib.hid (HB1.out.trans (hb2.mono HB1.out.size))
  clear hb2 HL HB1
  go_wp2_with fail
  refine (P28.out w2 lo lc HL2.out).mono ?_
  rintro e w3 ⟨rfl, hb3⟩
  have HL3 := Lib.hid (HL2.out.after hb3); have HB3 := Lib.hid (HB2.out.trans (hb3.mono HB2.out.size))
  clear hb3 HL2 HB2
  cases r with
  | false =>
    have HB6 := HB3
    go_wp2_with fail
    refine (draw31 _ bo m d (HBo.out.after HB6.out) (by omega)).mono ?_
    rintro e w7 ⟨t, ht, rfl, hb7⟩
    have HB7 := Lib.hid (HB6.out.trans (hb7.mono HB6.out.size))
    clear hb7
    have R32 := Lib.hid (rlf32 t (by omega))
    have R29 := Lib.hid (rlf29 t (by omega))
    obtain ⟨hxin, hx60⟩ := rlX_in t
    have HPR := Lib.hid (fun h => put_rl (t := t) h)
    unfold RlF at R32 R29
    generalize rlX t = xs at R32 R29 hxin hx60 HPR
    generalize rlB t = q at R32 R29 HPR
    have HX := Lib.hid hxin
    have hqq : (q != q) = false := by cases q <;> rfl
    clear hxin
    go_wp2_with fail
    refine (R29.out _).mono ?_
    rintro e w8 ⟨⟨xo, xc, rfl, hR8⟩, hb8⟩
    have HX8 := Lib.hid (hR8.irow HX.out); have HB8 := Lib.hid (HB7.out.trans (hb8.mono HB7.out.size))
    clear hR8 hb8
    go_wp2_with fail
    refine (R32.out _).mono ?_
    rintro e w9 ⟨⟨yo, yc, rfl, hR9⟩, hb9⟩
    have HY9 := Lib.hid (hR9.irow HX.out); have HX9 := Lib.hid (HX8.out.after hb9); have HB9 := Lib.hid (HB8.out.trans (hb9.mono HB8.out.size))
    clear hR9 hb9
    go_wp2_with fail
    refine (same30 xo yo xc yc xs (by omega) w9 HX9.out HY9.out).mono ?_
    rintro e w10 ⟨rfl, hb10⟩
    have HX10 := Lib.hid (HX9.out.after hb10); have HB10 := Lib.hid (HB9.out.trans (hb10.mono HB9.out.size))
    clear hb10
    cases q with
    | false =>
      go_wp2
      go_ret
      exact ⟨rfl, HB10.out⟩
    | true =>
      obtain ⟨hf, hp⟩ := HPR.out rfl
      have HC := Lib.hid (putl27 xo xc xs (by omega) w10 HX10.out)
      rw [hf, hp] at HC
      clear hf hp
      go_wp2_with fail
      refine HC.out.mono ?_
      rintro e w11 ⟨rfl, hb11⟩
      have HB11 := Lib.hid (HB10.out.trans (hb11.mono HB10.out.size))
      clear hb11
      go_wp2
      go_ret
      exact ⟨rfl, HB11.out⟩
  | true =>
    obtain ⟨e1, e2⟩ := HRl.out rfl
    have R := Lib.hid (rlf29 s (by omega) w3)
    unfold RlF at R
    rw [e1, e2] at R
    clear e1 e2
    go_wp2_with fail
    refine R.out.mono ?_
    rintro e w4 ⟨⟨xo, xc, rfl, hR4⟩, hb4⟩
    have HX4 := Lib.hid (hR4.irow HL3.out.1); have HL4 := Lib.hid (HL3.out.after hb4); have HB4 := Lib.hid (HB3.out.trans (hb4.mono HB3.out.size))
    clear hR4 hb4 R
    go_wp2_with fail
    refine (same30 xo lo xc lc l (by omega) w4 HX4.out HL4.out).mono ?_
    rintro e w5 ⟨rfl, hb5⟩
    have HB6 := Lib.hid (HB4.out.trans (hb5.mono HB4.out.size))
    clear hb5 HX4 HL4 HL3
    go_wp2_with fail
    refine (draw31 _ bo m d (HBo.out.after HB6.out) (by omega)).mono ?_
    rintro e w7 ⟨t, ht, rfl, hb7⟩
    have HB7 := Lib.hid (HB6.out.trans (hb7.mono HB6.out.size))
    clear hb7
    have R32 := Lib.hid (rlf32 t (by omega))
    have R29 := Lib.hid (rlf29 t (by omega))
    obtain ⟨hxin, hx60⟩ := rlX_in t
    have HPR := Lib.hid (fun h => put_rl (t := t) h)
    unfold RlF at R32 R29
    generalize rlX t = xs at R32 R29 hxin hx60 HPR
    generalize rlB t = q at R32 R29 HPR
    have HX := Lib.hid hxin
    have hqq : (q != q) = false := by cases q <;> rfl
    clear hxin
    go_wp2_with fail
    refine (R29.out _).mono ?_
    rintro e w8 ⟨⟨xo, xc, rfl, hR8⟩, hb8⟩
    have HX8 := Lib.hid (hR8.irow HX.out); have HB8 := Lib.hid (HB7.out.trans (hb8.mono HB7.out.size))
    clear hR8 hb8
    go_wp2_with fail
    refine (R32.out _).mono ?_
    rintro e w9 ⟨⟨yo, yc, rfl, hR9⟩, hb9⟩
    have HY9 := Lib.hid (hR9.irow HX.out); have HX9 := Lib.hid (HX8.out.after hb9); have HB9 := Lib.hid (HB8.out.trans (hb9.mono HB8.out.size))
    clear hR9 hb9
    go_wp2_with fail
    refine (same30 xo yo xc yc xs (by omega) w9 HX9.out HY9.out).mono ?_
    rintro e w10 ⟨rfl, hb10⟩
    have HX10 := Lib.hid (HX9.out.after hb10); have HB10 := Lib.hid (HB9.out.trans (hb10.mono HB9.out.size))
    clear hb10
    cases q with
    | false =>
      go_wp2
      go_ret
      exact ⟨rfl, HB10.out⟩
    | true =>
      obtain ⟨hf, hp⟩ := HPR.out rfl
      have HC := Lib.hid (putl27 xo xc xs (by omega) w10 HX10.out)
      rw [hf, hp] at HC
      clear hf hp
      go_wp2_with fail
      refine HC.out.mono ?_
      rintro e w11 ⟨rfl, hb11⟩
      have HB11 := Lib.hid (HB10.out.trans (hb11.mono HB10.out.size))
      clear hb11
      go_wp2
      go_ret
      exact ⟨rfl, HB11.out⟩
end Go.Proofs.Ytckdfckkkbkooaa
