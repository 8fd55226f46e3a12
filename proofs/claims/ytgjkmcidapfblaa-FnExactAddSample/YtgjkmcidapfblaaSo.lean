/- Contracts of GoodChunk and SamplesOf in the model, over this seat's translation. -/
import Derived.Test.YtgjkmcidapfblaaGd
namespace Go.Proofs.Ytgjkmcidapfblaa
open Go.RowKit Go.Deep

/-- What SamplesOf answers. -/
def SoEnd (c : Chk) (w : World) (e : Ending) (w' : World) : Prop :=
  (∃ (ao : Option Addr) (cp : Nat), e = .returned (.tuple #[.slice ao (soL c).length cp, .bool (soB c)]) ∧ w'.ownsRow w.heap.size 41 2 (.slice ao (soL c).length cp) (soL c).length (cellsS (soL c))) ∧ Below w.heap.size w w'

set_option maxRecDepth 100000 in
theorem good35 (s : ByteArray) (c1 c2 c3 : Int) (hs : s.size ≤ 1048576) (w : World) : Calls Try.prog 17 #[.agg #[.string s, .int .i64 c1, .int .i64 c2, .int .i64 c3]] w (GdEnd (s, c1, c2, c3) w) := by
  have HB0 := Lib.hid ((Below.refl w.heap.size w).alloc (Nat.le_refl _) (.cells #[.string s, .int .i64 c1, .int .i64 c2, .int .i64 c3] 33))
  unfold GdEnd
  have HC := Lib.hid (fun W => good81 s c1 c2 c3 hs W)
  unfold GdEnd at HC
  generalize soB (s, c1, c2, c3) = b at HC ⊢
  go_enter Try.func17, Try.ntmps17
  go_wp2_with fail
  refine (HC.out _).mono ?_
  rintro e w1 ⟨rfl, hb1⟩
  have HB1 := Lib.hid (HB0.out.trans (hb1.mono HB0.out.size))
  clear hb1
  go_wp2
  go_ret
  exact ⟨rfl, HB1.out⟩

set_option maxHeartbeats 2000000 in
set_option maxRecDepth 100000 in
theorem of42 (s : ByteArray) (c1 c2 c3 : Int) (hs : s.size ≤ 1048576) (w : World) : Calls Try.prog 24 #[.agg #[.string s, .int .i64 c1, .int .i64 c2, .int .i64 c3]] w (SoEnd (s, c1, c2, c3) w) := by
  have HB0 := Lib.hid ((Below.refl w.heap.size w).alloc (Nat.le_refl _) (.cells #[.string s, .int .i64 c1, .int .i64 c2, .int .i64 c3] 33))
  have HX0 := Lib.hid (Bx.new w (.string s) (.int .i64 c1) (.int .i64 c2) (.int .i64 c3) 33)
  have HC := Lib.hid (fun W => good81 s c1 c2 c3 hs W)
  unfold GdEnd at HC
  by_cases hg : soB (s, c1, c2, c3) = true
  case neg =>
    have hg : soB (s, c1, c2, c3) = false := by simpa using hg
    have HL := Lib.hid (so_not hg)
    have HG := Lib.hid hg
    rw [hg] at HC
    clear hg
    go_enter Try.func24, Try.ntmps24
    go_wp2_with fail
    refine (HC.out _).mono ?_
    rintro e w1 ⟨rfl, hb1⟩
    have HB1 := Lib.hid (HB0.out.trans (hb1.mono HB0.out.size))
    clear hb1
    go_wp2
    go_ret2
    refine ⟨⟨none, 0, ?_, ?_⟩, HB1.out⟩
    · rw [HL.out, HG.out]; rfl
    · rw [HL.out]; exact World.ownsRow_nil _ _ _ _
  have HG := Lib.hid hg
  rw [hg] at HC
  have HI := Lib.hid (so_is hg)
  clear hg
  go_enter Try.func24, Try.ntmps24
  go_wp2_with fail
  refine (HC.out _).mono ?_
  rintro e w1 ⟨rfl, hb1⟩
  have HB1 := Lib.hid (HB0.out.trans (hb1.mono HB0.out.size))
  obtain ⟨y0, y1, y2, y3, _⟩ := (HX0.out.below hb1).cells
  clear hb1
  go_wp2_with fail
  refine (take82 s c1 c2 c3 hs _).mono ?_
  rintro e w2 ⟨⟨ao, n, cp, rfl, hn60, hn⟩ | ⟨xs, ao, cp, hF, h60, rfl, ho, hgg⟩, hb2⟩
  · exact absurd HI.out (hn _)
  have HE := Lib.hid (hgg _ HI.out)
  have HO := Lib.hid (own_less ho (base' := w.heap.size) HB1.out.size)
  have HB2 := Lib.hid (HB1.out.trans (hb2.mono HB1.out.size))
  clear ho hgg hb2 hF
  go_wp2
  go_ret2
  refine ⟨⟨ao, cp, ?_, ?_⟩, HB2.out⟩
  · rw [HE.out, HG.out]; rfl
  · rw [HE.out]; exact HO.out
end Go.Proofs.Ytgjkmcidapfblaa
