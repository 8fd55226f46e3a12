/- Contracts of GoodChunk and SamplesOf in the model, over this seat's translation. -/
import Derived.Test.YteiefngamccapaaK12
import Derived.Deep.RegionWith
namespace Go.Proofs.Yteiefngamccapaa
open Go.RowKit Go.Deep

def GdEnd (c : Chk) (w : World) (e : Ending) (w' : World) : Prop := e = .returned (.bool (soB c)) ∧ Below w.heap.size w w'

set_option maxHeartbeats 4000000 in
set_option maxRecDepth 100000 in
theorem good81 (s : ByteArray) (c1 c2 c3 : Int) (hs : s.size ≤ 1048576) (w : World) : Calls Try.prog 73 #[.agg #[.string s, .int .i64 c1, .int .i64 c2, .int .i64 c3]] w (GdEnd (s, c1, c2, c3) w) := by
  have HB0 := Lib.hid ((Below.refl w.heap.size w).alloc (Nat.le_refl _) (.cells #[.string s, .int .i64 c1, .int .i64 c2, .int .i64 c3] 85))
  have HX0 := Lib.hid (Bx.new w (.string s) (.int .i64 c1) (.int .i64 c2) (.int .i64 c3) 85)
  go_enter Try.func73, Try.ntmps73
  go_wp2_with fail
  refine (take82 s c1 c2 c3 hs _).mono ?_
  rintro e w1 ⟨⟨ao, n, cp, rfl, hn60, hn⟩ | ⟨xs, ao, cp, hF, h60, rfl, ho, hg⟩, hb1⟩
  · have HN := Lib.hid (so_no hn).1
    have HB1 := Lib.hid (HB0.out.trans (hb1.mono HB0.out.size))
    clear hn hb1
    go_wp2_with fail
    go_quiet (fail)
    have HB2 := Lib.hid (below_drewN HB1.out nq)
    go_wp2
    go_ret
    exact ⟨ret_bool HN.out.symm, HB2.out⟩
  have HB1 := Lib.hid (HB0.out.trans (hb1.mono HB0.out.size))
  have HX1 := Lib.hid (HX0.out.below hb1)
  have HG := Lib.hid hg
  have hR1 := (SRow.of_own ho).2
  have HSR := Lib.hid (fun (W : World) (hb : Below w1.heap.size w1 W) => hR1.after hb)
  have HF := Lib.hid hF
  clear hg ho hb1 hF hR1 HB0 HX0
  by_cases h8 : xs.length ≤ 8
  case neg =>
    have HN : Hid (soB (s, c1, c2, c3) = false) := Lib.hid (so_no fun l hl => by have h1 := hl.len; have h2 := HG.out l hl; rw [h2] at h1; omega).1
    have hd : decide ((xs.length : Int) ≤ 8) = false := by simp; omega
    go_wp2_with fail
    go_quiet (fail)
    have HB2 := Lib.hid (below_drewN HB1.out nq)
    go_wp2
    go_ret
    exact ⟨ret_bool HN.out.symm, HB2.out⟩
  have HC76 := Lib.hid (fun W hW => good76 ao cp xs HF.out (by omega) W hW)
  have HC77 := Lib.hid (fun W hW => pack77 ao cp xs HF.out h8 W hW)
  obtain ⟨z0, z1, z2, z3, _⟩ := HX1.out.cells
  by_cases hgs : goodS xs = true
  case neg =>
    have hgs : goodS xs = false := by simpa using hgs
    have HN : Hid (soB (s, c1, c2, c3) = false) := Lib.hid (so_no fun l hl => by have h1 := (pkB_fit hl.2.1).2; have h2 := HG.out l hl; rw [h2, hgs] at h1; cases h1).1
    rw [hgs] at HC76
    generalize xs.length = n at HC76 HC77 h8 ⊢
    have hd : decide ((n : Int) ≤ 8) = true := by simp; omega
    clear hgs HC77
    go_wp2_with fail
    first | (go_region_with (first | (go_at_call 74; refine (HC76.out _ (HSR.out _ (Below.refl _ _).drew)).mono ?_; rintro e w2 ⟨rfl, hb2'⟩; have hb2 := (Below.refl w1.heap.size w1).drew.trans hb2'; clear hb2'; obtain ⟨y0, y1, y2, y3, _⟩ := (HX1.out.below hb2).cells))) | skip
    all_goals
      have HB2 := Lib.hid (HB1.out.trans (hb2.mono HB1.out.size))
      clear hb2
      go_wp2
      go_ret
      exact ⟨ret_bool HN.out.symm, HB2.out⟩
  rw [hgs] at HC76
  have HK := Lib.hid (pkB_good h8 hgs)
  by_cases hc : pkC xs = (s, c1, c2, c3)
  · have HY : Hid (soB (s, c1, c2, c3) = true) := Lib.hid (so_yes ⟨HF.out, HK.out, hc⟩).1
    rw [hc] at HC77
    unfold chV at HC77
    simp only at HC77
    generalize xs.length = n at HC76 HC77 h8 ⊢
    have hd : decide ((n : Int) ≤ 8) = true := by simp; omega
    clear hgs hc
    go_wp2_with fail
    go_region_held3 (fun w' => w'.cell? ⟨w.heap.size, 0, none⟩ = some (.string s) ∧ w'.cell? ⟨w.heap.size, 1, none⟩ = some (.int .i64 c1) ∧ w'.cell? ⟨w.heap.size, 2, none⟩ = some (.int .i64 c2) ∧ w'.cell? ⟨w.heap.size, 3, none⟩ = some (.int .i64 c3)) (exact ⟨by assumption, by assumption, by assumption, by assumption⟩) (first | (go_at_call 74; refine (HC76.out _ (HSR.out _ (Below.refl _ _).drew)).mono ?_; rintro e w2 ⟨rfl, hb2'⟩; have hb2 := (Below.refl w1.heap.size w1).drew.trans hb2'; clear hb2'; obtain ⟨y0, y1, y2, y3, _⟩ := (HX1.out.below hb2).cells) | (go_at_call 89; refine (HC77.out _ (HSR.out _ hb2)).mono ?_; rintro e w3 ⟨rfl, hb3'⟩; have hb3 := hb2.trans (hb3'.mono hb2.size); clear hb3'; obtain ⟨x0, x1, x2, x3, _⟩ := (HX1.out.below hb3).cells))
    have HB2 := Lib.hid (HB1.out.trans (hb3.mono HB1.out.size))
    clear hb2 hb3
    go_wp2
    go_ret
    exact ⟨ret_bool HY.out.symm, HB2.out⟩
  · have HN : Hid (soB (s, c1, c2, c3) = false) := Lib.hid (so_no fun l hl => by have h2 := HG.out l hl; subst h2; exact hc hl.2.2).1
    generalize pkC xs = q at hc HC77
    obtain ⟨s', d1, d2, d3⟩ := q
    unfold chV at HC77
    simp only at HC77
    have hE := chk_ite hc
    generalize xs.length = n at HC76 HC77 h8 ⊢
    have hd : decide ((n : Int) ≤ 8) = true := by simp; omega
    clear hgs hc
    go_wp2_with fail
    go_region_held3 (fun w' => w'.cell? ⟨w.heap.size, 0, none⟩ = some (.string s) ∧ w'.cell? ⟨w.heap.size, 1, none⟩ = some (.int .i64 c1) ∧ w'.cell? ⟨w.heap.size, 2, none⟩ = some (.int .i64 c2) ∧ w'.cell? ⟨w.heap.size, 3, none⟩ = some (.int .i64 c3)) (exact ⟨by assumption, by assumption, by assumption, by assumption⟩) (first | (go_at_call 74; refine (HC76.out _ (HSR.out _ (Below.refl _ _).drew)).mono ?_; rintro e w2 ⟨rfl, hb2'⟩; have hb2 := (Below.refl w1.heap.size w1).drew.trans hb2'; clear hb2'; obtain ⟨y0, y1, y2, y3, _⟩ := (HX1.out.below hb2).cells) | (go_at_call 89; refine (HC77.out _ (HSR.out _ hb2)).mono ?_; rintro e w3 ⟨rfl, hb3'⟩; have hb3 := hb2.trans (hb3'.mono hb2.size); clear hb3'; obtain ⟨x0, x1, x2, x3, _⟩ := (HX1.out.below hb3).cells))
    have HB2 := Lib.hid (HB1.out.trans (hb3.mono HB1.out.size))
    clear hb2 hb3
    go_wp2
    go_ret
    exact ⟨ret_bool HN.out.symm, HB2.out⟩
end Go.Proofs.Yteiefngamccapaa
namespace Go.Proofs.Yteiefngamccapaa
open Go.RowKit Go.Deep

/-- What SamplesOf answers. -/
def SoEnd (c : Chk) (w : World) (e : Ending) (w' : World) : Prop :=
  (∃ (ao : Option Addr) (cp : Nat), e = .returned (.tuple #[.slice ao (soL c).length cp, .bool (soB c)]) ∧ w'.ownsRow w.heap.size 42 2 (.slice ao (soL c).length cp) (soL c).length (cellsS (soL c))) ∧ Below w.heap.size w w'

end Go.Proofs.Yteiefngamccapaa
