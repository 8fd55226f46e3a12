/- Contract of a reading told as a view, in the program; over this seat's translation. -/
import Derived.Test.YtabkjjbhnapgpaaCg9
import Derived.Deep.RegionLaw
import Derived.Deep.RegionWith
namespace Go.Proofs.Ytabkjjbhnapgpaa
open Go.RowKit Go.Deep Go.ChangeShapes Go.WideShapes Go.ChangeAt

set_option maxHeartbeats 4000000 in
set_option maxRecDepth 100000 in
theorem viewI (v : Vw) (hn : v.xs.length ≤ 1048576) (w : World) (h : IRow w w.heap.size v.ao v.xs) :
    Calls Try.prog 64 #[.agg #[.int .i64 v.top, .slice v.ao v.xs.length v.cap, .int .i64 v.id]] w fun e w' => ∃ (bo : Option Addr) (bc : Nat), e = .returned (.agg #[.int .i64 v.id, .int .i64 v.top, .slice bo v.xs.length bc]) ∧ w'.ownsRow w.heap.size 3 1 (.slice bo v.xs.length bc) v.xs.length (v.xs.map (Value.int .i64)) ∧ Below w.heap.size w w' := by
  have hb0 := ((Below.refl w.heap.size w).alloc (Nat.le_refl _) (.cells #[.int .i64 v.top, .slice v.ao v.xs.length v.cap, .int .i64 v.id] 85)).alloc (by simp) (.cells #[.int .i64 0, .int .i64 0, .slice none 0 0] 43)
  have HX := Lib.hid ((B3.new w (.int .i64 v.top) (.slice v.ao v.xs.length v.cap) (.int .i64 v.id) 85).alloc (.cells #[.int .i64 0, .int .i64 0, .slice none 0 0] 43))
  have HY := Lib.hid (B3.new (w.alloc (.cells #[.int .i64 v.top, .slice v.ao v.xs.length v.cap, .int .i64 v.id] 85)) (.int .i64 0) (.int .i64 0) (.slice none 0 0) 43)
  rw [World.size_alloc] at HY
  have HB0 := Lib.hid hb0
  have hi0 := h.below hb0.size hb0
  have hsz : ((w.alloc (.cells #[.int .i64 v.top, .slice v.ao v.xs.length v.cap, .int .i64 v.id] 85)).alloc (.cells #[.int .i64 0, .int .i64 0, .slice none 0 0] 43)).heap.size = w.heap.size + 1 + 1 := by simp
  have HC := Lib.hid (cloneI v.ao v.cap v.xs hn _ hi0.drew)
  clear h hi0 hb0
  obtain ⟨vi, vt, va, vc, vx⟩ := v
  simp only at HX HY HB0 hsz HC hn ⊢
  go_enter Try.func64, Try.ntmps64
  go_wp2_with fail
  generalize (w.alloc (.cells #[.int .i64 vt, .slice va vx.length vc, .int .i64 vi] 85)).alloc (.cells #[.int .i64 0, .int .i64 0, .slice none 0 0] 43) = w0 at HB0 HX HY hsz HC ⊢
  obtain ⟨x0, x1, x2⟩ := HX.out.cells
  obtain ⟨y0, y1, y2⟩ := HY.out.cells
  have hb0 := (Below.refl w0.heap.size w0).drew
  have HEnd := Lib.hid (fun (wa : World) (bo : Option Addr) (bc : Nat) (hba : Below w0.heap.size w0 wa) (hoa : wa.ownsRow w0.heap.size 3 1 (.slice bo vx.length bc) vx.length (vx.map (Value.int .i64))) =>
    show (((wa.setCell ⟨w.heap.size + 1, 0, none⟩ (.int .i64 vi)).setCell ⟨w.heap.size + 1, 1, none⟩ (.int .i64 vt)).setCell ⟨w.heap.size + 1, 2, none⟩ (.slice bo vx.length bc)).ownsRow w.heap.size 3 1 (.slice bo vx.length bc) vx.length (vx.map (Value.int .i64)) ∧ Below w.heap.size w (((wa.setCell ⟨w.heap.size + 1, 0, none⟩ (.int .i64 vi)).setCell ⟨w.heap.size + 1, 1, none⟩ (.int .i64 vt)).setCell ⟨w.heap.size + 1, 2, none⟩ (.slice bo vx.length bc)) from
    ⟨own_lower (own_set (own_set (own_set hoa (by omega)) (by omega)) (by omega)) HB0.out.size, (((HB0.out.trans (hba.mono HB0.out.size)).setCell (by show w.heap.size ≤ w.heap.size + 1; omega) _).setCell (by show w.heap.size ≤ w.heap.size + 1; omega) _).setCell (by show w.heap.size ≤ w.heap.size + 1; omega) _⟩)
  clear hsz
  go_region_with ((go_at_call 78; refine HC.out.mono ?_; rintro e wa ⟨⟨bo, bc, rfl, hoa⟩, hba'⟩; have hba := hb0.trans hba'; clear hba'; obtain ⟨u0, u1, u2⟩ := (HX.out.below hba).cells; obtain ⟨t0, t1, t2⟩ := (HY.out.below hba).cells; have f0 := (HY.out.below hba).free 0; have f1 := (HY.out.below hba).free 1; have f2 := (HY.out.below hba).free 2))
  all_goals
    have HE := Lib.hid (HEnd.out wa bo bc hba hoa)
    clear hba hoa hb0
    go_wp2
    exact bodyPost_ret (v := .agg #[.int .i64 vi, .int .i64 vt, .slice bo vx.length bc]) (by simp [results, Try.results64, go_sem, t0, t1, t2]) rfl ⟨bo, bc, rfl, HE.out.1, HE.out.2⟩
end Go.Proofs.Ytabkjjbhnapgpaa
