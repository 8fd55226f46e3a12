/- The walk of the law FnExactReadValue: at every text, in a world that holds the library's tables and errors, its call returns true and writes nothing that was there. -/
import Derived.Test.YtkpfjjkblfjodaaDoorParse
namespace Go.Proofs.YtkpfjjkblfjodaaDoor
open Go.RowKit Go.Deep

/-- What is parsed, at the outer edge: an error or none. -/
def Parsed2 (s : ByteArray) (w : World) (e : Ending) (w' : World) : Prop :=
  ∃ (x : Nat) (ev : Value), x < 18446744073709551616 ∧ e = .returned (.tuple #[.int .u64 x, ev]) ∧ (ev = .nilIface ∨ (∃ t v, ev = .iface t v) ∧ ¬ goodS s) ∧ (goodS s → x = valL s.data.toList) ∧ Below w.heap.size w w'

theorem parse16 (s : ByteArray) (hs : s.size ≤ 1048576) (w : World) (h2 : ErrAt w 2) (h3 : ErrAt w 3) : Calls Tryd.prog 16 #[.string s, .int .i64 16, .int .i64 64] w (Parsed2 s w) := by
  have H2 := Lib.hid h2; have H3 := Lib.hid h3; clear h2 h3
  go_enter Tryd.func16, Tryd.ntmps16
  go_wp2_with fail
  refine (parse25 s hs w).mono ?_
  rintro e w1 ⟨x, ev, hx, rfl, hev, hg, hb⟩
  have HB := Lib.hid hb; have HG := Lib.hid hg; clear hb hg
  rcases hev with rfl | ⟨k, hk, rfl⟩
  · go_wp2
    go_ret2
    exact ⟨x, _, hx, rfl, .inl rfl, fun h => (HG.out h).2, HB.out⟩
  · have HNG : Hid (¬ goodS s) := Lib.hid fun h => by have := (HG.out h).1; cases this
    have HK := Lib.hid hk
    clear hk
    go_wp2_with fail
    refine (err26 _ s _ _ k w1 hs HK.out (H2.out.below HB.out) (H3.out.below HB.out)).mono ?_
    rintro e w2 ⟨t, v, rfl, hb2⟩
    have HB2 := Lib.hid (HB.out.trans (hb2.mono HB.out.size)); clear hb2
    go_wp2
    go_ret2
    exact ⟨x, _, hx, rfl, .inr ⟨⟨t, v, rfl⟩, HNG.out⟩, fun h => absurd h HNG.out, HB2.out⟩

def readOk (s : ByteArray) : Bool := decide (s.size = 16) && validL s.data.toList
def readVal (s : ByteArray) : Nat := if readOk s then valL s.data.toList else 0

theorem readOk_iff (s : ByteArray) : readOk s = true ↔ goodS s := by unfold readOk goodS; simp

theorem rv7_all (s : ByteArray) (w : World) : Calls Tryd.prog 7 #[.string s] w fun e w' => e = .returned (.tuple #[.float .f64 (readVal s), .bool (readOk s)]) ∧ w = w' := by
  by_cases h : s.size = 16
  · refine (rv7 s w h).mono ?_
    rintro e w' ⟨rfl, rfl⟩
    refine ⟨ret_rv ?_ ?_, rfl⟩
    · unfold valOf readVal readOk; simp [h]
    · unfold readOk; simp [h]
  · refine (rv7_size s w h).mono ?_
    rintro e w' ⟨rfl, rfl⟩
    refine ⟨ret_rv ?_ ?_, rfl⟩
    · unfold readVal readOk; simp [h]
    · unfold readOk; simp [h]

theorem not_ok {s : ByteArray} (h : ¬ goodS s) : readOk s = false ∧ readVal s = 0 := by
  have h1 : readOk s = false := by
    cases hr : readOk s with
    | false => rfl
    | true => exact absurd ((readOk_iff s).1 hr) h
  exact ⟨h1, by unfold readVal; rw [h1]; rfl⟩

theorem is_ok {s : ByteArray} (h : goodS s) : readOk s = true ∧ readVal s = valL s.data.toList := by
  have h1 := (readOk_iff s).2 h
  exact ⟨h1, by unfold readVal; rw [h1]; rfl⟩

set_option maxHeartbeats 1000000 in
theorem rv8 (s : ByteArray) (hs : s.size ≤ 1048576) (w : World) (hc : w.cell? ⟨6, 15, none⟩ = some (.int .u8 4)) (h2 : ErrAt w 2) (h3 : ErrAt w 3) :
    Calls Tryd.prog 8 #[.string s] w fun e w' => e = .returned (.tuple #[.float .f64 (readVal s), .bool (readOk s)]) ∧ Below w.heap.size w w' := by
  have H2 := Lib.hid h2; have H3 := Lib.hid h3; clear h2 h3
  have HC := Lib.hid hc; clear hc
  go_enter Tryd.func8, Tryd.ntmps8
  go_wp2_with fail
  refine (parse16 s hs w H2.out H3.out).mono ?_
  rintro e w1 ⟨x, ev, hx, rfl, hev, hg, hb⟩
  have HB := Lib.hid hb; have HG := Lib.hid hg; clear hb hg
  rcases hev with rfl | ⟨⟨t, v, rfl⟩, hng⟩
  · have h6 : 6 < w.heap.size := World.block_lt_of_cell? w _ HC.out
    have hc1 : w1.cell? ⟨6, 15, none⟩ = some (.int .u8 4) := (HB.out.cell (p := ⟨6, 15, none⟩) h6).trans HC.out
    have HC1 := Lib.hid hc1
    have H6 := Lib.hid (Nat.lt_of_lt_of_le h6 HB.out.size)
    clear hc1 h6
    go_wp2_with (go_at_call 17; refine (from17 _ _).mono ?_; rintro e w' ⟨rfl, rfl⟩)
    refine (vt6 x hx w1 HC1.out H6.out).mono ?_
    rintro e w2 ⟨rfl, hb2⟩
    have HB2 := Lib.hid (HB.out.trans (hb2.mono HB.out.size)); clear hb2
    by_cases hsame : hexS x = s
    · subst hsame
      have HK := Lib.hid (is_ok (good_hexS hx).1)
      have HV := Lib.hid (good_hexS hx).2
      go_wp2
      go_ret2
      exact ⟨ret_rv (by rw [HK.out.2, HV.out]) HK.out.1.symm, HB2.out⟩
    · have hng : ¬ goodS s := fun h => hsame (by rw [HG.out h]; exact (hexS_of_good h).1)
      have HK := Lib.hid (not_ok hng)
      have hq : ((hexS x).toList == s.toList) = false := by
        rw [beq_eq_false_iff_ne]
        intro e
        apply hsame
        rw [Lib.toList_data, Lib.toList_data] at e
        exact ByteArray.ext (Array.toList_inj.1 e)
      clear hsame hng
      go_wp2
      go_ret2
      exact ⟨ret_rv HK.out.2.symm HK.out.1.symm, HB2.out⟩
  · have HK := Lib.hid (not_ok hng)
    clear hng
    go_wp2
    go_ret2
    exact ⟨ret_rv HK.out.2.symm HK.out.1.symm, HB.out⟩

open Ieee in
theorem read_zero : double.read 0 = .number false 0 (-1074) := by decide +kernel
open Ieee in
theorem read_one : double.read 4607182418800017408 = .number false 4503599627370496 (-52) := by decide +kernel

theorem signed_zero {s : Bool} {m k : Nat} (h : Ieee.signed s m k = 0) : m = 0 := by
  unfold Ieee.signed at h
  have : m <<< k = 0 := by split at h <;> omega
  rw [Nat.shiftLeft_eq] at this
  rcases Nat.mul_eq_zero.1 this with h | h
  · exact h
  · exact absurd h (Nat.ne_of_gt (Nat.two_pow_pos k))

open Ieee in
theorem inv_zero (a : Nat) (h : FloatKind.f64.format.order a 0 = some Ordering.eq) : ∃ r, floatBits .quo .f64 4607182418800017408 a = some r := by
  have h' : Datum.order (double.read a) (double.read 0) = some Ordering.eq := h
  have g : floatBits .quo .f64 4607182418800017408 a = ((double.read 4607182418800017408).quotient (double.fractionBits + 2) (double.read a)).map double.write := rfl
  rw [g, read_one]
  rw [read_zero] at h'
  cases hd : double.read a with
  | nan s t => rw [hd] at h'; simp [Datum.order] at h'
  | infinity s => rw [hd] at h'; cases s <;> simp [Datum.order] at h'
  | number s m i =>
    rw [hd] at h'
    simp only [Datum.order, Option.some.injEq] at h'
    have h2 : signed s m (i - min i (-1074)).toNat = 0 := by
      have h3 := Std.LawfulEqOrd.eq_of_compare h'
      rw [h3]
      simp [signed, Nat.shiftLeft_eq]
    have h4 := signed_zero h2
    subst h4
    exact ⟨_, by simp [Datum.quotient]; rfl⟩

theorem same9 (a : Nat) (w : World) : Calls Tryd.prog 9 #[.float .f64 a, .float .f64 a] w fun e w' => e = .returned (.bool true) ∧ w = w' := by
  by_cases h0 : FloatKind.f64.format.order a 0 = some Ordering.eq
  · obtain ⟨r, hr⟩ := inv_zero a h0
    have hop : ∀ t w, (binOp .quo t (.float .f64 4607182418800017408) (.float .f64 a)).run Tryd.prog w = .ok (.float .f64 r) w := fun t w => run_float_arith w .quo t .f64 _ a r hr
    clear hr
    go_enter Tryd.func9, Tryd.ntmps9
    go_wp2
    all_goals (go_ret; exact ⟨ret_bool (by simp [*]), rfl⟩)
  · go_enter Tryd.func9, Tryd.ntmps9
    go_wp2
    all_goals (go_ret; exact ⟨ret_bool (by simp [*]), rfl⟩)

theorem walk_fnExactReadValue (s : ByteArray) (w : World) (hc : w.cell? ⟨6, 15, none⟩ = some (.int .u8 4)) (h2 : ErrAt w 2) (h3 : ErrAt w 3) :
    Calls Tryd.prog 4 #[.string s] w fun e w' => e = .returned (.bool true) ∧ Below w.heap.size w w' := by
  have H2 := Lib.hid h2; have H3 := Lib.hid h3; have HC := Lib.hid hc
  clear h2 h3 hc
  by_cases hbig : 1048576 < s.size
  · go_enter Tryd.func4, Tryd.ntmps4
    go_wp2
    go_ret
    exact ⟨rfl, Below.refl _ _⟩
  · go_enter Tryd.func4, Tryd.ntmps4
    go_wp2_with fail
    refine (rv7_all s w).mono ?_
    rintro e w1 ⟨rfl, rfl⟩
    go_wp2_with fail
    refine (rv8 s (by omega) w HC.out H2.out H3.out).mono ?_
    rintro e w1 ⟨rfl, hb⟩
    have HB := Lib.hid hb; clear hb
    go_wp2_with (go_at_call 9; refine (same9 _ _).mono ?_; rintro e w' ⟨rfl, rfl⟩)
    go_ret
    exact ⟨rfl, HB.out⟩
end Go.Proofs.YtkpfjjkblfjodaaDoor
