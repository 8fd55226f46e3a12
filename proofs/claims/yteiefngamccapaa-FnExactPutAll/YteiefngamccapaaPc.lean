/- Contracts of PackSamples and NewChunk, in the program and in the model, over this seat's translation: the chunk of samples, or that there is none. -/
import Derived.Test.YteiefngamccapaaK9
import Derived.Test.YteiefngamccapaaK4
import Derived.Deep.RegionHeld3
namespace Go.Proofs.Yteiefngamccapaa
open Go.RowKit Go.Deep

/-- A block of four cells. -/
def Bx (w : World) (g : Nat) (a b c d : Value) : Prop := ∃ t, w.heap[g]? = some (.cells #[a, b, c, d] t)
theorem Bx.lt {w : World} {g : Nat} {a b c d : Value} (h : Bx w g a b c d) : g < w.heap.size := by
  obtain ⟨t, h⟩ := h
  exact (Array.getElem?_eq_some_iff.1 h).1
theorem Bx.cells {w : World} {g : Nat} {a b c d : Value} (h : Bx w g a b c d) : w.cell? ⟨g, 0, none⟩ = some a ∧ w.cell? ⟨g, 1, none⟩ = some b ∧ w.cell? ⟨g, 2, none⟩ = some c ∧ w.cell? ⟨g, 3, none⟩ = some d ∧
    w.frozen? ⟨g, 0, none⟩ = false ∧ w.frozen? ⟨g, 1, none⟩ = false ∧ w.frozen? ⟨g, 2, none⟩ = false ∧ w.frozen? ⟨g, 3, none⟩ = false := by
  obtain ⟨t, h⟩ := h
  refine ⟨?_, ?_, ?_, ?_, ?_, ?_, ?_, ?_⟩ <;> simp [World.cell?, World.frozen?, h]
theorem Bx.below {w w' : World} {g : Nat} {a b c d : Value} (h : Bx w g a b c d) (hb : Below w.heap.size w w') : Bx w' g a b c d := by
  have hl := h.lt
  obtain ⟨t, h⟩ := h
  exact ⟨t, (hb.block g hl).trans h⟩
theorem Bx.new (w : World) (a b c d : Value) (t : TypeId) : Bx (w.alloc (.cells #[a, b, c, d] t)) w.heap.size a b c d := ⟨t, blk_alloc_new _ _⟩
theorem far4 {w : World} {g b k : Nat} {a1 a2 a3 a4 u : Value} (hne : g ≠ b) (h : w.cell? ⟨b, k, none⟩ = some u) : ((((w.setCell ⟨g, 0, none⟩ a1).setCell ⟨g, 1, none⟩ a2).setCell ⟨g, 2, none⟩ a3).setCell ⟨g, 3, none⟩ a4).cell? ⟨b, k, none⟩ = some u := by
  rw [World.cell?_setCell_far _ _ _ _ hne, World.cell?_setCell_far _ _ _ _ hne, World.cell?_setCell_far _ _ _ _ hne, World.cell?_setCell_far _ _ _ _ hne]; exact h
abbrev zS : Value := .string ⟨#[]⟩
abbrev zI : Value := .int .i64 0

theorem new30 (w : World) : Calls Try.prog 65 #[] w fun e w' => e = .returned (.agg #[zS, zI, zI, zI]) ∧ Below w.heap.size w w' := by
  go_enter Try.func65, Try.ntmps65
  go_wp2
  exact bodyPost_ret (v := .agg #[zS, zI, zI, zI]) (by simp [results, Try.results65, go_sem]) rfl ⟨rfl, (Below.refl _ _).alloc (Nat.le_refl _) _⟩
/-- What packing answers. -/
def PkEnd (l : List Smp) (w : World) (e : Ending) (w' : World) : Prop := e = .returned (.tuple #[chV (pkR l), .bool (pkB l)]) ∧ Below w.heap.size w w'
theorem pk_no {l : List Smp} (h : pkB l = false) : Ending.returned (.tuple #[.agg #[zS, zI, zI, zI], .bool false]) = .returned (.tuple #[chV (pkR l), .bool (pkB l)]) := by rw [pkR_no h, h]; rfl
theorem pk_yes {l : List Smp} {s : ByteArray} {a b : Int} {m : Nat} (h : pkB l = true) (hm : l.length = m + 1) (hs : s = strP l) (ha : a = tF l 0) (hb : b = tF l m) : Ending.returned (.tuple #[.agg #[.string s, .int .i64 ((m + 1 : Nat) : Int), .int .i64 a, .int .i64 b], .bool true]) = .returned (.tuple #[chV (pkR l), .bool (pkB l)]) := by
  rw [pkR_yes h, h, pkC_some (by omega), hs, ha, hb, hm]; rfl

set_option maxHeartbeats 4000000 in
set_option maxRecDepth 100000 in
theorem pack23 (ao : Option Addr) (cap : Nat) (l : List Smp) (hF : FitS l) (hn : l.length ≤ 1048576) (w : World) (h : SRow w w.heap.size ao l) :
    Calls Try.prog 71 #[.slice ao l.length cap] w (PkEnd l w) := by
  have HB0 := Lib.hid ((Below.refl w.heap.size w).alloc (Nat.le_refl _) (.cells #[zS, zI, zI, zI] 85))
  have HX0 := Lib.hid (Bx.new w zS zI zI zI 85)
  have H0 := Lib.hid h
  have H := Lib.hid (h.after HB0.out)
  have HF := Lib.hid hF
  clear h hF
  by_cases h8 : 8 < l.length
  · have HN := Lib.hid (pk_no (pkB_long h8))
    go_enter Try.func71, Try.ntmps71
    go_wp2
    exact bodyPost_ret (v := .tuple #[.agg #[zS, zI, zI, zI], .bool false]) (by simp [results, Try.results71, go_sem]) rfl ⟨HN.out, HB0.out⟩
  go_enter Try.func71, Try.ntmps71
  go_wp2_with fail
  refine (good25 ao cap l HF.out hn _ H.out).mono ?_
  rintro e w1 ⟨rfl, hb1⟩
  have HB1 := Lib.hid (HB0.out.trans (hb1.mono HB0.out.size))
  have HX1 := Lib.hid (HX0.out.below hb1)
  have H1 := Lib.hid (H.out.after hb1)
  clear hb1
  obtain ⟨z0, z1, z2, z3, f0, f1, f2, f3⟩ := HX1.out.cells
  by_cases hg : goodS l = true
  case neg =>
    have hg : goodS l = false := by simpa using hg
    have HN := Lib.hid (pk_no (pkB_bad hg))
    have hbs := HB1.out
    go_wp2
    exact bodyPost_ret (v := .tuple #[.agg #[zS, zI, zI, zI], .bool false]) (by simp [results, Try.results71, go_sem, z0, z1, z2, z3]) rfl ⟨HN.out, (((hbs.setCell (Nat.le_refl _) _).setCell (Nat.le_refl _) _).setCell (Nat.le_refl _) _).setCell (Nat.le_refl _) _⟩
  have HK := Lib.hid (pkB_good (by omega) hg)
  by_cases h0 : l.length = 0
  · have hl0 : l = [] := List.eq_nil_of_length_eq_zero h0
    have HY : Hid (Ending.returned (.tuple #[.agg #[zS, zI, zI, zI], .bool true]) = .returned (.tuple #[chV (pkR l), .bool (pkB l)])) := Lib.hid (by rw [pkR_yes HK.out, HK.out, hl0]; rfl)
    clear hl0
    rw [h0]
    clear z0 z1 z2 z3 f0 f1 f2 f3
    go_wp2_with fail
    refine (new30 _).mono ?_
    rintro e w2 ⟨rfl, hb2⟩
    have hbs := HB1.out.trans (hb2.mono HB1.out.size)
    obtain ⟨z0, z1, z2, z3, f0, f1, f2, f3⟩ := (HX1.out.below hb2).cells
    clear hb2
    go_wp2
    exact bodyPost_ret (v := .tuple #[.agg #[zS, zI, zI, zI], .bool true]) (by simp [results, Try.results71, go_sem, z0, z1, z2, z3]) rfl ⟨HY.out, (((hbs.setCell (Nat.le_refl _) _).setCell (Nat.le_refl _) _).setCell (Nat.le_refl _) _).setCell (Nat.le_refl _) _⟩
  obtain ⟨m, hm⟩ : ∃ m, l.length = m + 1 := ⟨l.length - 1, by omega⟩
  obtain ⟨b, off, hao, hbl0, hc⟩ := H0.out.tv (by omega)
  have hbne : w.heap.size ≠ b := by omega
  have hbl : b < w1.heap.size := Nat.lt_of_lt_of_le hbl0 HB1.out.size
  have c0 := (HB1.out.cell (p := ⟨b, off + 0 * 2, none⟩) hbl0).trans (hc 0 (by omega)).1
  have c1 := (HB1.out.cell (p := ⟨b, off + m * 2, none⟩) hbl0).trans (hc m (by omega)).1
  simp only [Nat.zero_mul, Nat.add_zero] at c0
  have HCall := Lib.hid (fun W hW => bytes75 ao cap l HF.out (by omega) W hW)
  have HY := Lib.hid (fun (s : ByteArray) (x y : Int) => pk_yes (s := s) (a := x) (b := y) HK.out hm)
  have HS1 := Lib.hid (fun (W : World) (hb : Below w1.heap.size w1 W) => H1.out.after hb)
  obtain ⟨n, hn1⟩ : ∃ n, n = l.length := ⟨_, rfl⟩
  have hn2 : n = m + 1 := by omega
  rw [← hn2] at HY
  rw [← hn1] at HCall h8 ⊢
  have hwr : IntKind.i64.wrap ((n : Int) - 1) = m := by rw [show (n : Int) - 1 = m by omega]; exact IntWalk.i64_in _ (by omega)
  have hm0 : (0 : Int) ≤ m := by omega
  have hm1 : (m : Int) < n := by omega
  have hn0 : 0 < n := by omega
  have hne : ((n : Int) == 0) = false := by simp; omega
  subst hao
  obtain ⟨x0, hx0⟩ : ∃ x, x = tF l 0 := ⟨_, rfl⟩
  obtain ⟨x1, hx1⟩ : ∃ x, x = tF l m := ⟨_, rfl⟩
  rw [← hx0] at c0 HY
  rw [← hx1] at c1 HY
  obtain ⟨s, hs⟩ : ∃ s, s = strP l := ⟨_, rfl⟩
  rw [← hs] at HCall HY
  have HYY := Lib.hid (HY.out s x0 x1 rfl rfl rfl)
  clear hc hx0 hx1 hs h0 hn HY hm hn1 hn2 z0 z1 z2 z3 f0 f1 f2 f3 H H0 HX0 HK HF H1 hbl0
  go_wp2_with fail
  go_region_held3 (fun w' => w'.cell? ⟨b, off, none⟩ = some (.int .i64 x0) ∧ w'.cell? ⟨b, off + m * 2, none⟩ = some (.int .i64 x1)) (first | exact ⟨by assumption, by assumption⟩ | exact ⟨far4 hbne (by assumption), far4 hbne (by assumption)⟩) (first | (go_at_call 91; refine (HCall.out _ (HS1.out _ (Below.refl _ _).drew)).mono ?_; rintro e w2 ⟨rfl, hb2'⟩; have hb2 := (Below.refl w1.heap.size w1).drew.trans hb2'; clear hb2'; have c0' := (hb2.cell (p := ⟨b, off, none⟩) hbl).trans c0; have c1' := (hb2.cell (p := ⟨b, off + m * 2, none⟩) hbl).trans c1; obtain ⟨y0, y1, y2, y3, g0, g1, g2, g3⟩ := (HX1.out.below hb2).cells))
  have hbs := HB1.out.trans (hb2.mono HB1.out.size)
  clear hb2 c0' c1'
  go_wp2
  exact bodyPost_ret (v := .tuple #[.agg #[.string s, .int .i64 n, .int .i64 x0, .int .i64 x1], .bool true]) (by simp [results, Try.results71, go_sem, y0, y1, y2, y3]) rfl ⟨HYY.out, (((hbs.setCell (Nat.le_refl _) _).setCell (Nat.le_refl _) _).setCell (Nat.le_refl _) _).setCell (Nat.le_refl _) _⟩
end Go.Proofs.Yteiefngamccapaa
