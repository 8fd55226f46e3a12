/- Contracts of AddSample, in the program and in the model, over this seat's translation. -/
import Derived.Test.YteiefngamccapaaK15
namespace Go.Proofs.Yteiefngamccapaa
open Go.RowKit Go.Deep

theorem one_srow (w : World) (a : Int) (b : Nat) : SRow (w.alloc (.cells #[.int .i64 a, .float .f64 b] 42)) (w.alloc (.cells #[.int .i64 a, .float .f64 b] 42)).heap.size (some ⟨w.heap.size, 0, none⟩) [(a, b)] :=
  SRow.of_block (World.alloc_heap_new w _)

set_option maxHeartbeats 4000000 in
set_option maxRecDepth 100000 in
theorem add31 (s : ByteArray) (c1 c2 c3 : Int) (t : Int) (v : Nat) (hx : FitS [(t, v)]) (hs : s.size ≤ 1048576) (w : World) :
    Calls Try.prog 83 #[.agg #[.string s, .int .i64 c1, .int .i64 c2, .int .i64 c3], .agg #[.int .i64 t, .float .f64 v]] w (AdEnd (s, c1, c2, c3) (t, v) w) := by
  have hst := @run_store_float Try.prog
  have HB0 := Lib.hid ((((Below.refl w.heap.size w).alloc (Nat.le_refl _) (.cells #[.string s, .int .i64 c1, .int .i64 c2, .int .i64 c3] 85)).alloc (by simp) (.cells #[.int .i64 t, .float .f64 v] 42)).alloc (by simp; omega) (.cells #[zS, zI, zI, zI] 85))
  have HXc := Lib.hid (((Bx.new w (.string s) (.int .i64 c1) (.int .i64 c2) (.int .i64 c3) 85).alloc (.cells #[.int .i64 t, .float .f64 v] 42)).alloc (.cells #[zS, zI, zI, zI] 85))
  have HXr := Lib.hid (Bx.new ((w.alloc (.cells #[.string s, .int .i64 c1, .int .i64 c2, .int .i64 c3] 85)).alloc (.cells #[.int .i64 t, .float .f64 v] 42)) zS zI zI zI 85)
  simp only [World.size_alloc] at HXr
  obtain ⟨W0, hW0⟩ : ∃ W0, W0 = ((w.alloc (.cells #[.string s, .int .i64 c1, .int .i64 c2, .int .i64 c3] 85)).alloc (.cells #[.int .i64 t, .float .f64 v] 42)).alloc (.cells #[zS, zI, zI, zI] 85) := ⟨_, rfl⟩
  rw [← hW0] at HB0 HXc HXr
  have hsz0 : W0.heap.size = w.heap.size + 1 + 1 + 1 := by rw [hW0]; simp
  have HP := pack23 (some ⟨W0.heap.size, 0, none⟩) 1 [(t, v)] hx (by simp) (W0.alloc (.cells #[.int .i64 t, .float .f64 v] 42)) (one_srow W0 t v)
  rw [hsz0] at HP
  have HP : Hid (Calls Try.prog 71 #[.slice (some ⟨w.heap.size + 1 + 1 + 1, 0, none⟩) 1 1] (W0.alloc (.cells #[.int .i64 t, .float .f64 v] 42)) (PkEnd [(t, v)] (W0.alloc (.cells #[.int .i64 t, .float .f64 v] 42)))) := Lib.hid HP
  unfold PkEnd at HP
  have HB1 := Lib.hid (HB0.out.alloc HB0.out.size (.cells #[.int .i64 t, .float .f64 v] 42))
  have HC1 := Lib.hid (HXc.out.alloc (.cells #[.int .i64 t, .float .f64 v] 42))
  have HR1 := Lib.hid (HXr.out.alloc (.cells #[.int .i64 t, .float .f64 v] 42))
  obtain ⟨W1, hW1⟩ : ∃ W1, W1 = W0.alloc (.cells #[.int .i64 t, .float .f64 v] 42) := ⟨_, rfl⟩
  rw [← hW1] at HP HB1 HC1 HR1
  have hW := hW1
  rw [hW0] at hW
  clear hW0 hW1 hsz0 HB0 HXc HXr
  unfold AdEnd
  by_cases hp : pkB [(t, v)] = true
  case neg =>
    have hp : pkB [(t, v)] = false := by simpa using hp
    have HN := Lib.hid (ad_no (ad_one (c := (s, c1, c2, c3)) hp))
    rw [hp] at HP
    generalize pkR [(t, v)] = q at HP
    obtain ⟨s', d1, d2, d3⟩ := q
    unfold chV at HP
    simp only at HP
    clear hp
    go_enter Try.func83, Try.ntmps83
    go_wp2_with fail
    rw [← hW]
    refine HP.out.mono ?_
    rintro e w1 ⟨rfl, hb1⟩
    have hbs := (HB1.out.trans (hb1.mono HB1.out.size)).alloc (Nat.le_trans HB1.out.size hb1.size) (.cells #[.string s', .int .i64 d1, .int .i64 d2, .int .i64 d3] 85)
    obtain ⟨z0, z1, z2, z3, f0, f1, f2, f3⟩ := ((HR1.out.below hb1).alloc (.cells #[.string s', .int .i64 d1, .int .i64 d2, .int .i64 d3] 85)).cells
    clear hb1
    go_wp2
    exact bodyPost_ret (v := .tuple #[.agg #[zS, zI, zI, zI], .bool false]) (by simp [results, Try.results83, go_sem, z0, z1, z2, z3]) rfl ⟨HN.out, below4 hbs (by omega)⟩
  have HY := Lib.hid (ad_jn (c := (s, c1, c2, c3)) hx hp)
  rw [hp, pkR_yes hp] at HP
  have hsz : (pkC [(t, v)]).1.size ≤ 1048576 := by
    rw [pkC_some (by simp), strP_size]
    have h1 := tailK_len [(t, v)] 1
    have h2 := strE_small (l := [t]) (fun x hx' => by simp at hx'; subst hx'; exact (hx _ (List.mem_singleton.2 rfl)).1) (by simp)
    have h3 := congrArg List.length (tailK_all [(t, v)])
    rw [List.length_append] at h3
    have h4 : (strE [t]).size = (enc [t]).length := by simp [strE, ByteArray.size]
    simp at h1 h3
    omega
  have HJ := Lib.hid (fun (q : Chk) (hq : q.1.size ≤ 1048576) W => join36 s c1 c2 c3 q.1 q.2.1 q.2.2.1 q.2.2.2 hs hq W)
  unfold JnEnd at HJ
  have HJ := Lib.hid (HJ.out _ hsz)
  generalize pkC [(t, v)] = q at HP HJ HY
  obtain ⟨s', d1, d2, d3⟩ := q
  unfold chV at HP
  simp only at HP HJ
  generalize jnC (s, c1, c2, c3) (s', d1, d2, d3) = r at HJ HY
  generalize jnB (s, c1, c2, c3) (s', d1, d2, d3) = rb at HJ HY
  obtain ⟨s2, e1, e2, e3⟩ := r
  unfold chV at HJ
  simp only at HJ
  clear hp hsz
  go_enter Try.func83, Try.ntmps83
  go_wp2_with fail
  rw [← hW]
  refine HP.out.mono ?_
  rintro e w1 ⟨rfl, hb1⟩
  have HB2 := Lib.hid ((HB1.out.trans (hb1.mono HB1.out.size)).alloc (Nat.le_trans HB1.out.size hb1.size) (.cells #[.string s', .int .i64 d1, .int .i64 d2, .int .i64 d3] 85))
  have HR2 := Lib.hid ((HR1.out.below hb1).alloc (.cells #[.string s', .int .i64 d1, .int .i64 d2, .int .i64 d3] 85))
  obtain ⟨y0, y1, y2, y3, _⟩ := ((HC1.out.below hb1).alloc (.cells #[.string s', .int .i64 d1, .int .i64 d2, .int .i64 d3] 85)).cells
  clear hb1
  go_wp2_with fail
  refine (HJ.out _).mono ?_
  rintro e w2 ⟨rfl, hb2⟩
  have hbs := HB2.out.trans (hb2.mono HB2.out.size)
  obtain ⟨z0, z1, z2, z3, f0, f1, f2, f3⟩ := (HR2.out.below hb2).cells
  clear hb2
  go_wp2
  exact bodyPost_ret (v := .tuple #[.agg #[.string s2, .int .i64 e1, .int .i64 e2, .int .i64 e3], .bool rb]) (by simp [results, Try.results83, go_sem, z0, z1, z2, z3]) rfl ⟨HY.out, below4 hbs (by omega)⟩

end Go.Proofs.Yteiefngamccapaa
