/- The model's putting of a sample where the code is not 'done': a copy of the chunks. -/
import Derived.Test.YteiefngamccapaaPt
import Derived.Test.YteiefngamccapaaTr
import Derived.Test.YteiefngamccapaaSx
namespace Go.Proofs.Yteiefngamccapaa
open Go.RowKit Go.Deep

/-- What putting a sample into a series comes to. -/
def PuEnd (cs : List Chk) (f c : Int) (w : World) (e : Ending) (w' : World) : Prop :=
  (∃ (ao : Option Addr) (cp : Nat), e = .returned (.tuple #[.agg #[.slice ao cs.length cp, .int .i64 f], .int .i64 c]) ∧ w'.ownsRow w.heap.size 85 4 (.slice ao cs.length cp) cs.length (cellsG cC cs)) ∧ Below w.heap.size w w'
theorem pu_end {w w' : World} {cs : List Chk} {f c : Int} {v : Value} (ho : w'.ownsRow w.heap.size 85 4 v cs.length (cellsG cC cs)) (h : Below w.heap.size w w') : PuEnd cs f c w (.returned (.tuple #[.agg #[v, .int .i64 f], .int .i64 c])) w' := by
  obtain ⟨ao, cp, rfl⟩ := own_slice ho
  exact ⟨⟨ao, cp, rfl, ho⟩, h⟩

set_option maxHeartbeats 8000000 in
set_option maxRecDepth 100000 in
theorem putM_no (ao : Option Addr) (cap : Nat) (l : List Chk) (fl t : Int) (v : Nat) (h6 : l.length ≤ 6) (hF : FitC l 1048576) (hal : allB l = true) (hcd : cdF l fl (t, v) ≠ 0) (w : World) (h : CRow w w.heap.size ao l) :
    Calls Try.prog 56 #[.agg #[.slice ao l.length cap, .int .i64 fl], .agg #[.int .i64 t, .float .f64 v]] w (PuEnd l fl (cdF l fl (t, v)) w) := by
  have hst := @run_store_float Try.prog
  have HB0 := Lib.hid ((((Below.refl w.heap.size w).alloc (Nat.le_refl _) (.cells #[.slice ao l.length cap, .int .i64 fl] 29)).alloc (by simp) (.cells #[.int .i64 t, .float .f64 v] 42)).alloc (by simp; omega) (.cells #[.slice none 0 0, .int .i64 0] 29))
  have HX0 := Lib.hid (((Bt.new w (.slice ao l.length cap) (.int .i64 fl) 29).alloc (.cells #[.int .i64 t, .float .f64 v] 42)).alloc (.cells #[.slice none 0 0, .int .i64 0] 29))
  have HY0 := Lib.hid ((Bt.new (w.alloc (.cells #[.slice ao l.length cap, .int .i64 fl] 29)) (.int .i64 t) (.float .f64 v) 42).alloc (.cells #[.slice none 0 0, .int .i64 0] 29))
  have HZ0 := Lib.hid (Bt.new ((w.alloc (.cells #[.slice ao l.length cap, .int .i64 fl] 29)).alloc (.cells #[.int .i64 t, .float .f64 v] 42)) (.slice none 0 0) (.int .i64 0) 29)
  simp only [World.size_alloc] at HY0 HZ0
  have HR0 := Lib.hid (GR.after h HB0.out)
  have HOw := Lib.hid (fun W hW => own59 ao cap l fl (by omega) W hW)
  have HCm := Lib.hid (fun W hW => codeM ao cap l fl t v h6 hF hal W hW)
  generalize cdF l fl (t, v) = cd at HCm hcd ⊢
  have hne : (cd == 0) = false := beq_eq_false_iff_ne.2 hcd
  clear h hF hal hcd
  go_enter Try.func56, Try.ntmps56
  go_wp2_with fail
  refine (HOw.out _ HR0.out).mono ?_
  rintro e w2 h2
  obtain ⟨o2, k2, rfl, hO2, hR2, hb2⟩ := made_ser h2
  have hzl : w.heap.size + 2 < w2.heap.size := (HZ0.out.below hb2).lt
  have hW2 := (Below.refl w2.heap.size w2).alloc (Nat.le_refl _) (.cells #[.slice o2 l.length k2, .int .i64 fl] 29)
  have HO2 := Lib.hid (hO2.alloc (.cells #[.slice o2 l.length k2, .int .i64 fl] 29))
  have HB2 := Lib.hid ((HB0.out.trans (hb2.mono HB0.out.size)).trans (hW2.mono (Nat.le_trans HB0.out.size hb2.size)))
  have HX2 := Lib.hid ((HX0.out.below hb2).below hW2)
  have HY2 := Lib.hid ((HY0.out.below hb2).below hW2)
  have HZ2 := Lib.hid ((HZ0.out.below hb2).below hW2)
  have HR2 := Lib.hid (GR.after (GR.after HR0.out hb2) hW2)
  have HP2 := Lib.hid (Bt.new w2 (.slice o2 l.length k2) (.int .i64 fl) 29)
  clear hb2 h2 hO2 hR2 hW2 HB0 HX0 HY0 HZ0 HR0 HOw
  obtain ⟨x0, x1, _⟩ := HX2.out.cells
  obtain ⟨y0, y1, _⟩ := HY2.out.cells
  go_wp2_with fail
  refine (HCm.out _ HR2.out).mono ?_
  rintro e w3 ⟨rfl, hb3⟩
  have HB3 := Lib.hid (HB2.out.trans (hb3.mono HB2.out.size))
  have HO3 := Lib.hid (own_below HO2.out hb3)
  obtain ⟨p0, p1, _⟩ := (HP2.out.below hb3).cells
  obtain ⟨z0, z1, zf0, zf1⟩ := (HZ2.out.below hb3).cells
  clear hb3 x0 x1 y0 y1
  go_wp2
  exact bodyPost_ret (v := .tuple #[.agg #[.slice o2 l.length k2, .int .i64 fl], .int .i64 cd]) (by simp [results, Try.results56, go_sem, z0, z1]) rfl (pu_end (own_lower (own_set (own_set HO3.out (by simp only [World.size_alloc]; omega)) (by simp only [World.size_alloc]; omega)) (by simp only [World.size_alloc]; omega)) (set2_belowT HB3.out (by omega)))
end Go.Proofs.Yteiefngamccapaa
