/- Contract of PackSamples in the model, over this seat's translation. -/
import Derived.Test.YteiefngamccapaaPs
namespace Go.Proofs.Yteiefngamccapaa
open Go.RowKit Go.Deep

set_option maxHeartbeats 2000000 in
set_option maxRecDepth 100000 in
theorem pack24 (ao : Option Addr) (cap : Nat) (l : List Smp) (hF : FitS l) (hn : l.length ≤ 1048576) (w : World) (h : SRow w w.heap.size ao l) :
    Calls Try.prog 94 #[.slice ao l.length cap] w (PkEnd l w) := by
  have HB0 := Lib.hid ((Below.refl w.heap.size w).alloc (Nat.le_refl _) (.cells #[zS, zI, zI, zI] 85))
  have HX0 := Lib.hid (Bx.new w zS zI zI zI 85)
  have H := Lib.hid (h.after HB0.out)
  have HF := Lib.hid hF
  clear h hF
  by_cases h8 : 8 < l.length
  · have HN := Lib.hid (pk_no (pkB_long h8))
    go_enter Try.func94, Try.ntmps94
    go_wp2
    exact bodyPost_ret (v := .tuple #[.agg #[zS, zI, zI, zI], .bool false]) (by simp [results, Try.results94, go_sem]) rfl ⟨HN.out, HB0.out⟩
  go_enter Try.func94, Try.ntmps94
  go_wp2_with fail
  refine (good76 ao cap l HF.out hn _ H.out).mono ?_
  rintro e w1 ⟨rfl, hb1⟩
  have HB1 := Lib.hid (HB0.out.trans (hb1.mono HB0.out.size))
  have HX1 := Lib.hid (HX0.out.below hb1)
  have H1 := Lib.hid (H.out.after hb1)
  clear hb1
  by_cases hg : goodS l = true
  case neg =>
    have hg : goodS l = false := by simpa using hg
    have HN := Lib.hid (pk_no (pkB_bad hg))
    have hbs := HB1.out
    obtain ⟨z0, z1, z2, z3, f0, f1, f2, f3⟩ := HX1.out.cells
    go_wp2
    exact bodyPost_ret (v := .tuple #[.agg #[zS, zI, zI, zI], .bool false]) (by simp [results, Try.results94, go_sem, z0, z1, z2, z3]) rfl ⟨HN.out, (((hbs.setCell (Nat.le_refl _) _).setCell (Nat.le_refl _) _).setCell (Nat.le_refl _) _).setCell (Nat.le_refl _) _⟩
  have HK := Lib.hid (pkB_good (by omega) hg)
  have HY : Hid (Ending.returned (.tuple #[chV (pkC l), .bool true]) = .returned (.tuple #[chV (pkR l), .bool (pkB l)])) := Lib.hid (by rw [pkR_yes HK.out, HK.out])
  have HCall := Lib.hid (pack77 ao cap l HF.out (by omega) w1 H1.out)
  generalize pkC l = q at HY HCall
  obtain ⟨s, x, y, z⟩ := q
  unfold chV at HCall
  simp only at HCall
  go_wp2_with fail
  refine HCall.out.mono ?_
  rintro e w2 ⟨rfl, hb2⟩
  have hbs := HB1.out.trans (hb2.mono HB1.out.size)
  obtain ⟨z0, z1, z2, z3, f0, f1, f2, f3⟩ := (HX1.out.below hb2).cells
  clear hb2
  go_wp2
  exact bodyPost_ret (v := .tuple #[.agg #[.string s, .int .i64 x, .int .i64 y, .int .i64 z], .bool true]) (by simp [results, Try.results94, go_sem, z0, z1, z2, z3]) rfl ⟨HY.out, (((hbs.setCell (Nat.le_refl _) _).setCell (Nat.le_refl _) _).setCell (Nat.le_refl _) _).setCell (Nat.le_refl _) _⟩
end Go.Proofs.Yteiefngamccapaa
