/- Contracts of copyOfGood and lastChunk, over this seat's translation. -/
import Derived.Test.YteiefngamccapaaAp
import Derived.Test.YteiefngamccapaaK15
namespace Go.Proofs.Yteiefngamccapaa
open Go.RowKit Go.Deep

theorem copy_no (ao : Option Addr) (cap : Nat) (l : List Chk) (fl : Int) (hn : l.length ≤ 1048576) (hF : FitC l 1048576) (hg : gsB l fl = false) (w : World) (h : CRow w w.heap.size ao l) :
    Calls Try.prog 57 #[.agg #[.slice ao l.length cap, .int .i64 fl]] w fun e w' => e = .returned (.tuple #[.pointer none, .bool false]) ∧ Below w.heap.size w w' := by
  have HB0 := Lib.hid ((Below.refl w.heap.size w).alloc (Nat.le_refl _) (.cells #[.slice ao l.length cap, .int .i64 fl] 29))
  have HR0 := Lib.hid (GR.after h HB0.out)
  have HC := Lib.hid (fun W hW => goodI ao cap l fl hn hF W hW)
  unfold GsEnd at HC
  rw [hg] at HC
  clear h hF hg
  go_enter Try.func57, Try.ntmps57
  go_wp2_with fail
  refine (HC.out _ HR0.out).mono ?_
  rintro e w1 ⟨rfl, hb1⟩
  have HB1 := Lib.hid (HB0.out.trans (hb1.mono HB0.out.size))
  clear hb1
  go_wp2
  go_ret2
  exact ⟨rfl, HB1.out⟩

def CopyEnd (l : List Chk) (fl : Int) (w : World) (e : Ending) (w' : World) : Prop :=
  ∃ (p : Nat) (v : Value), e = .returned (.tuple #[.pointer (some ⟨p, 0, none⟩), .bool true]) ∧ Bt w' p v (.int .i64 fl) ∧ w'.ownsRow w.heap.size 85 4 v l.length (cellsG cC l) ∧ w.heap.size ≤ p ∧ v.ownBlock ≠ some p ∧ Below w.heap.size w w'

set_option maxHeartbeats 4000000 in
set_option maxRecDepth 100000 in
theorem copy_yes (ao : Option Addr) (cap : Nat) (l : List Chk) (fl : Int) (hn : l.length ≤ 1048576) (hF : FitC l 1048576) (hg : gsB l fl = true) (w : World) (h : CRow w w.heap.size ao l) :
    Calls Try.prog 57 #[.agg #[.slice ao l.length cap, .int .i64 fl]] w (CopyEnd l fl w) := by
  have HB0 := Lib.hid ((Below.refl w.heap.size w).alloc (Nat.le_refl _) (.cells #[.slice ao l.length cap, .int .i64 fl] 29))
  have HX0 := Lib.hid (Bt.new w (.slice ao l.length cap) (.int .i64 fl) 29)
  have HR0 := Lib.hid (GR.after h HB0.out)
  have HC := Lib.hid (fun W hW => goodI ao cap l fl hn hF W hW)
  have h6 := (gs_is hg).len
  obtain ⟨i0, hi, hz0, hz1, hz2⟩ := info_parts Try.infoC
  unfold GsEnd at HC
  rw [hg] at HC
  clear h hF hg hn
  go_enter Try.func57, Try.ntmps57
  go_wp2_with fail
  refine (HC.out _ HR0.out).mono ?_
  rintro e w1 ⟨rfl, hb1⟩
  have HB1 := Lib.hid (HB0.out.trans (hb1.mono HB0.out.size))
  have HX1 := Lib.hid (HX0.out.below hb1)
  have HR1 := Lib.hid (GR.after HR0.out hb1)
  have HSr := Lib.hid (fun (W : World) (hb : Below w1.heap.size w1 W) => GR.srcA cC_len (GR.after HR1.out hb))
  clear hb1 HR0 HX0 HB0
  obtain ⟨x0, x1, _⟩ := HX1.out.cells
  have hb0 := (Below.refl w1.heap.size w1).drew
  go_wp2_with fail
  go_region_held3 (fun w' => w'.cell? ⟨w.heap.size, 0, none⟩ = some (.slice ao l.length cap) ∧ w'.cell? ⟨w.heap.size, 1, none⟩ = some (.int .i64 fl)) (first | exact ⟨by assumption, by assumption⟩ | exact ⟨((HX1.out.below hb2).alloc _).cells.1, ((HX1.out.below hb2).alloc _).cells.2.1⟩ | go_keep) (first | (refine step_append_any _ rfl _ _ rfl Try.underlying27 hi hz0 hz1 hz2 rfl (by decide) w1.heap.size _ _ _ rfl (World.ownsRow_nil _ _ _ _) _ _ _ _ rfl (HSr.out _ hb0) cC_one (by unfold maxLen; omega) (by omega) hb0.size ?_; intro v' w2 hown' hgrow _; simp only [Nat.zero_add, List.nil_append] at hown'; obtain ⟨o', c', rfl⟩ := own_slice hown'; have hb2 := own_grown hb0 (World.ownsRow_nil _ w1.heap.size 85 4) hgrow (Nat.le_refl _); clear hgrow; obtain ⟨u0, u1, _⟩ := (HX1.out.below hb2).cells))
  all_goals
    have HO2 := Lib.hid (hown'.alloc (.cells #[.slice o' l.length c', .int .i64 fl] 29))
    have HV : Hid ((Value.slice o' l.length c').ownBlock ≠ some w2.heap.size) := Lib.hid (fun e => Nat.lt_irrefl _ (hown'.lt _ e).2)
    have HB2 := Lib.hid ((HB1.out.trans (hb2.mono HB1.out.size)).alloc (Nat.le_trans HB1.out.size hb2.size) (.cells #[.slice o' l.length c', .int .i64 fl] 29))
    have HP := Lib.hid (Bt.new w2 (.slice o' l.length c') (.int .i64 fl) 29)
    have HS2 := Lib.hid (Nat.le_trans HB1.out.size hb2.size)
    clear hown' hb2 hb0
    go_wp2_with fail
    go_ret2
    exact ⟨w2.heap.size, .slice o' l.length c', rfl, HP.out, own_lower HO2.out HB1.out.size, HS2.out, HV.out, HB2.out⟩
end Go.Proofs.Yteiefngamccapaa
