/- Contracts of good matchers, of matching one and of matching all, in the program and in the model, over this seat's translation. -/
import Derived.Test.YtpbcgfgjdimpmaaDoorListm
namespace Go.Proofs.YtpbcgfgjdimpmaaDoor
open Go.RowKit Go.Deep

def goodMs (l : List Mat) : Bool := decide (l.length ≤ 6) && l.all matB
theorem goodMs_long {l : List Mat} (h : 6 < l.length) : goodMs l = false := by simp [goodMs]; omega
def mAll (p : Mat → Bool) (l : List Mat) (k : Nat) : Prop := l.all p = (l.drop k).all p
theorem mAll_succ {p : Mat → Bool} {l : List Mat} {k : Nat} (h : mAll p l k) (hk : k < l.length) (hx : p l[k] = true) : mAll p l (k + 1) := by
  unfold mAll at h ⊢
  rw [h, List.drop_eq_getElem_cons hk, List.all_cons, hx, Bool.true_and]
theorem mAll_no {p : Mat → Bool} {l : List Mat} {k : Nat} (h : mAll p l k) (hk : k < l.length) (hx : p l[k] = false) : l.all p = false := by
  unfold mAll at h
  rw [h, List.drop_eq_getElem_cons hk, List.all_cons, hx, Bool.false_and]
theorem mAll_end {p : Mat → Bool} {l : List Mat} (h : mAll p l l.length) : l.all p = true := by
  unfold mAll at h
  rw [h, List.drop_length]; rfl
theorem goodMs_no {l : List Mat} (h : l.all matB = false) : goodMs l = false := by simp only [goodMs, h, Bool.and_false]

set_option maxHeartbeats 2000000 in
set_option maxRecDepth 100000 in
theorem good38 (ao : Option Addr) (cap : Nat) (l : List Mat) (hn : l.length ≤ 1048576) (w : World) (hT : Tabs w) (h : MRow w w.heap.size ao l) :
    Calls Tryd.prog 38 #[.slice ao l.length cap] w fun e w' => e = .returned (.bool (goodMs l)) ∧ Below w.heap.size w w' := by
  have H := Lib.hid h
  clear h
  by_cases h6 : 6 < l.length
  · have HG := Lib.hid (goodMs_long h6)
    go_enter Tryd.func38, Tryd.ntmps38
    go_wp2
    go_ret
    exact ⟨ret_bool HG.out.symm, Below.refl _ _⟩
  have hd : decide (6 < (l.length : Int)) = false := by simp; omega
  go_enter Tryd.func38, Tryd.ntmps38
  go_wp2
  go_loopw [10] (fun i wr => ∃ k : Nat, k ≤ l.length ∧ i = .int .i64 k ∧ Hid (mAll matB l k) ∧ Hid (Below w.heap.size w wr)) (fun i _ => l.length - (intOf i).toNat)
  case atStart => exact ⟨0, Nat.zero_le _, rfl, rfl, Below.refl _ _⟩
  case round =>
    obtain ⟨k, hk, rfl, hG, hb⟩ := hrel
    by_cases hlt : k < l.length
    · obtain ⟨b, off, hao, hbl, hc⟩ := H.out (by omega)
      subst hao
      have c0 := (hb.out.cell (p := ⟨b, off + k * 3, none⟩) hbl).trans (hc k hlt).1
      have c1 := (hb.out.cell (p := ⟨b, off + k * 3 + 1, none⟩) hbl).trans (hc k hlt).2.1
      have c2 := (hb.out.cell (p := ⟨b, off + k * 3 + 2, none⟩) hbl).trans (hc k hlt).2.2
      have HS := Lib.hid (fun hx => mAll_succ hG.out hlt hx)
      have HN := Lib.hid (fun hx => goodMs_no (mAll_no hG.out hlt hx))
      have HB1 := Lib.hid (hb.out.alloc (hb.out.size) (.cells #[.int .i64 l[k].1, .string l[k].2.1, .string l[k].2.2] 43))
      clear hc
      generalize l[k] = x at c0 c1 c2 HS HN HB1
      obtain ⟨x0, x1, x2⟩ := x
      go_wp2_with fail
      refine (good82 x0 x1 x2 _ (hT.below' HB1.out)).mono ?_
      rintro e w1 ⟨rfl, hb1⟩
      have HW1 := Lib.hid (HB1.out.trans (hb1.mono HB1.out.size))
      clear hb1
      by_cases hg : matB (x0, x1, x2) = true
      · have HG2 := Lib.hid (HS.out hg)
        go_wp2
        go_roundw
        case rel => exact ⟨k + 1, by omega, by go_num, HG2, HW1⟩
        case measure => simp [intOf]; omega
      · have hg : matB (x0, x1, x2) = false := by simpa using hg
        have HF := Lib.hid (HN.out hg)
        go_wp2
        go_ret
        exact ⟨ret_bool HF.out.symm, HW1.out⟩
    · obtain rfl : k = l.length := by omega
      have HF := Lib.hid (show goodMs l = true by simp only [goodMs, mAll_end hG.out, Bool.and_true, decide_eq_true_eq]; omega)
      go_wp2
      go_ret
      exact ⟨ret_bool HF.out.symm, hb.out⟩

set_option maxHeartbeats 2000000 in
set_option maxRecDepth 100000 in
theorem good88 (ao : Option Addr) (cap : Nat) (l : List Mat) (hF : FitM l) (w : World) (h : MRow w w.heap.size ao l) :
    Calls Tryd.prog 88 #[.slice ao l.length cap] w fun e w' => e = .returned (.bool (goodMs l)) ∧ Below w.heap.size w w' := by
  have H := Lib.hid h
  clear h
  have hn := hF.1
  go_enter Tryd.func88, Tryd.ntmps88
  go_wp2
  go_loopw [7] (fun i wr => ∃ k : Nat, k ≤ l.length ∧ i = .int .i64 k ∧ Hid (mAll matB l k) ∧ Hid (Below w.heap.size w wr)) (fun i _ => l.length - (intOf i).toNat)
  case atStart => exact ⟨0, Nat.zero_le _, rfl, rfl, Below.refl _ _⟩
  case round =>
    obtain ⟨k, hk, rfl, hG, hb⟩ := hrel
    by_cases hlt : k < l.length
    · obtain ⟨b, off, hao, hbl, hc⟩ := H.out (by omega)
      subst hao
      have c0 := (hb.out.cell (p := ⟨b, off + k * 3, none⟩) hbl).trans (hc k hlt).1
      have c1 := (hb.out.cell (p := ⟨b, off + k * 3 + 1, none⟩) hbl).trans (hc k hlt).2.1
      have c2 := (hb.out.cell (p := ⟨b, off + k * 3 + 2, none⟩) hbl).trans (hc k hlt).2.2
      have hz := hF.at hlt
      have HS := Lib.hid (fun hx => mAll_succ hG.out hlt hx)
      have HN := Lib.hid (fun hx => goodMs_no (mAll_no hG.out hlt hx))
      have HB1 := Lib.hid (hb.out.alloc (hb.out.size) (.cells #[.int .i64 l[k].1, .string l[k].2.1, .string l[k].2.2] 43))
      clear hc
      generalize l[k] = x at c0 c1 c2 HS HN HB1 hz
      obtain ⟨x0, x1, x2⟩ := x
      go_wp2_with fail
      refine (good84 x0 x1 x2 hz.1 hz.2 _).mono ?_
      rintro e w1 ⟨rfl, hb1⟩
      have HW1 := Lib.hid (HB1.out.trans (hb1.mono HB1.out.size))
      clear hb1
      by_cases hg : matB (x0, x1, x2) = true
      · have HG2 := Lib.hid (HS.out hg)
        go_wp2
        go_roundw
        case rel => exact ⟨k + 1, by omega, by go_num, HG2, HW1⟩
        case measure => simp [intOf]; omega
      · have hg : matB (x0, x1, x2) = false := by simpa using hg
        have HF := Lib.hid (HN.out hg)
        go_wp2
        go_ret
        exact ⟨ret_bool HF.out.symm, HW1.out⟩
    · obtain rfl : k = l.length := by omega
      have HF := Lib.hid (show goodMs l = decide ((l.length : Int) ≤ 6) by simp only [goodMs, mAll_end hG.out, Bool.and_true]; rw [Bool.eq_iff_iff]; simp; omega)
      go_wp2
      go_ret
      exact ⟨ret_bool HF.out.symm, hb.out⟩

theorem good39 (ao : Option Addr) (cap : Nat) (l : List Mat) (hF : FitM l) (w : World) (h : MRow w w.heap.size ao l) :
    Calls Tryd.prog 39 #[.slice ao l.length cap] w fun e w' => e = .returned (.bool (goodMs l)) ∧ Below w.heap.size w w' := by
  have H := Lib.hid h
  clear h
  go_enter Tryd.func39, Tryd.ntmps39
  go_wp2_with fail
  refine (good88 ao cap l hF _ H.out).mono ?_
  rintro e w1 ⟨rfl, hb⟩
  have HB := Lib.hid hb
  clear hb
  go_wp2
  go_ret
  exact ⟨rfl, HB.out⟩
end Go.Proofs.YtpbcgfgjdimpmaaDoor
