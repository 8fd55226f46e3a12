/- Contracts of NewTable in the program; over this seat's translation. -/
import Derived.Test.YtnnfeblcgnaokaaNv
import Derived.Deep.RegionLaw
namespace Go.Proofs.Ytnnfeblcgnaokaa
open Go.RowKit Go.Deep Go.ChangeShapes Go.WideShapes Go.ChangeAt

theorem own_lower {w : World} {base base' : Nat} {e : TypeId} {s : Nat} {v : Value} {n : Nat} {xs : List Value} (h : w.ownsRow base e s v n xs) (hB : base' ≤ base) : w.ownsRow base' e s v n xs := by
  obtain ⟨h0, ⟨h1, h2⟩ | ⟨g, cap, cur, h1, hge, hr⟩⟩ := h
  · exact ⟨h0, .inl ⟨h1, h2⟩⟩
  · exact ⟨h0, .inr ⟨g, cap, cur, h1, Nat.le_trans hB hge, hr⟩⟩
def TabEnd (n : Nat) (w : World) (row : Option Nat) (e : Ending) (w' : World) : Prop := (∃ ao c, e = .returned (.agg #[.int .i64 n, .slice ao n c, .int .i64 0]) ∧ NOwn w' w.heap.size (.slice ao n c) n) ∧ w.grownBy w' row
theorem gb_off {w a b : World} {row row' : Option Nat} (h : w.grownBy a row) (k : a.grownBy b row') (hr : ∀ g, row' = some g → w.heap.size ≤ g) : w.grownBy b row :=
  ⟨k.os.trans h.os, k.tape.trans h.tape, k.output.trans h.output, Nat.le_trans h.size k.size, fun i hi hne => (k.block i (Nat.lt_of_lt_of_le hi h.size) (fun e => by have := hr i e.symm; omega)).trans (h.block i hi hne)⟩
theorem gb_new {w a : World} {row : Option Nat} {g : Nat} (h : w.grownBy a row) (hg : w.heap.size ≤ g) (i : Nat) (v : Value) : w.grownBy (a.setCell ⟨g, i, none⟩ v) row :=
  gb_off h (gb_set a g i v) (fun k e => by injection e with e; omega)
theorem Tt.set1 {w : World} {g : Nat} {a b c : Value} (h : Tt w g a b c) (v : Value) : Tt (w.setCell ⟨g, 1, none⟩ v) g a v c := by
  obtain ⟨t, h⟩ := h
  exact ⟨t, by simp [World.setCell, Array.getElem?_modify, h]⟩
/-- What the making stands at behind k stripes. -/
def Lp (w : World) (S n : Nat) (k : Nat) (wr : World) : Prop := Sb wr S ∧ Tt wr w.heap.size (.int .i64 0) (.slice none 0 0) (.int .i64 0) ∧ (∃ v, Tt wr (w.heap.size + 1) (.int .i64 n) v (.int .i64 0) ∧ NOwn wr (w.heap.size + 1 + 1) v k) ∧ w.grownBy wr (some S)

set_option maxHeartbeats 4000000 in
set_option maxRecDepth 100000 in
theorem tableI (S n : Nat) (hn : n ≤ 4) (w : World) (h : Sb w S) (hS : S < w.heap.size) :
    Calls Try.prog 11 #[.pointer (some ⟨S, 0, none⟩), .int .i64 n, .int .i64 0] w (TabEnd n w (some S)) := by
  obtain ⟨i0, hi, hz0, hz1, hz2⟩ := info_parts Try.infoN
  have HL0 : Hid (∀ W, Tt W w.heap.size (.int .i64 0) (.slice none 0 0) (.int .i64 0) → Tt W (w.heap.size + 1) (.int .i64 n) (.slice none 0 0) (.int .i64 0) → w.grownBy W none → Lp w S n 0 W) := Lib.hid (fun W h1 h2 hg => ⟨h.far hS hg (by simp), h1, ⟨_, h2, ⟨by simp, .inl ⟨rfl, rfl⟩⟩⟩, ⟨hg.os, hg.tape, hg.output, hg.size, fun i hi _ => hg.block i hi (by simp)⟩⟩)
  have HX := Lib.hid ((Tt.new w (.int .i64 0) (.slice none 0 0) (.int .i64 0) 24).alloc (.cells #[.int .i64 n, .slice none 0 0, .int .i64 0] 24))
  have HY := Lib.hid (Tt.new (w.alloc (.cells #[.int .i64 0, .slice none 0 0, .int .i64 0] 24)) (.int .i64 n) (.slice none 0 0) (.int .i64 0) 24)
  rw [World.size_alloc] at HY
  have HB0 := Lib.hid (((Below.refl w.heap.size w).alloc (Nat.le_refl _) (.cells #[.int .i64 0, .slice none 0 0, .int .i64 0] 24)).alloc (by simp) (.cells #[.int .i64 n, .slice none 0 0, .int .i64 0] 24))
  clear h
  go_enter Try.func11, Try.ntmps11
  go_wp2
  go_loopw [13] (fun i wr => ∃ k : Nat, k ≤ n ∧ i = .int .i64 k ∧ Hid (Lp w S n k wr)) (fun i _ => n - (intOf i).toNat)
  case atStart => exact ⟨0, Nat.zero_le _, rfl, Lib.hid (HL0.out _ HX.out HY.out (gb_below HB0.out))⟩
  case round =>
    obtain ⟨k, hk, rfl, hL⟩ := hrel
    by_cases hlt : k < n
    · obtain ⟨hSb, hX1, ⟨v, hY1, hO⟩, hG⟩ := hL.out
      obtain ⟨o, c, rfl⟩ := own_slice hO
      have HC := Lib.hid (fun W hW => cellsI S k (by omega) W hW)
      have HSb := Lib.hid hSb; have HX1 := Lib.hid hX1; have HY1 := Lib.hid hY1; have HO := Lib.hid hO; have HG := Lib.hid hG
      clear hSb hX1 hO hG hL HX HY HB0 HL0
      have hb0 := (Below.refl wr.heap.size wr).drew
      have hsz := HY1.out.lt
      obtain ⟨y0, y1, y2, g0, g1, g2⟩ := hY1.cells
      clear hY1
      have hk4 : (k : Int) < 4 := by omega
      have hk5 : k < 4 := by omega
      go_wp2_with fail
      go_region_law (first
        | (refine step_append_src _ rfl _ _ rfl Try.underlying22 hi hz0 hz1 hz2 rfl (w.heap.size + 1 + 1) _ _ _ rfl ((own_apart HO.out hga (fun q hq => by injection hq with hq; omega)).alloc _) (some ⟨wa.heap.size, 0, none⟩) 1 1 [.slice none 0 0] rfl rfl (src_one _ _ _) (by simp [Value.oneCell']) (by unfold maxLen; omega) (by omega) (by simp; omega) ?_; intro v' w3 hown' hgrow hv'; obtain ⟨o', c', rfl⟩ := own_slice hown'; have HY3 := Lib.hid (((HY1.out.apart hga (fun e => by injection e with e; omega)).alloc (.cells #[.slice none 0 0] 54)).apart hgrow (fun e => by have := (HO.out.lt _ e).1; omega)); obtain ⟨q0, q1, q2, qf0, qf1, qf2⟩ := HY3.out.cells)
        | (go_simp; go_at_call 15; refine (HC.out _ (show Sb wr.drew S from HSb.out)).mono ?_; rintro e wa ⟨rfl, hSa, hGa⟩; have hga := (gb_below (row := some S) hb0).trans hGa; clear hGa; have hsa := hga.size; obtain ⟨u0, u1, u2, _⟩ := (HY1.out.apart hga (fun e => by injection e with e; omega)).cells; obtain ⟨u3, u4, u5, _⟩ := ((HY1.out.apart hga (fun e => by injection e with e; omega)).alloc (.cells #[.slice none 0 0] 54)).cells))
      all_goals
        have hgl : wa.grownBy (wa.alloc (.cells #[.slice none 0 0] 54)) none := gb_below ((Below.refl wa.heap.size wa).alloc (Nat.le_refl _) _)
        have hwa : wr.heap.size ≤ wa.heap.size := hga.size
        have hSw : S < wr.heap.size := Nat.lt_of_lt_of_le hS HG.out.size
        have hvb : ∀ g, (Value.slice o k c).ownBlock = some g → w.heap.size + 1 + 1 ≤ g := fun g e => (HO.out.lt g e).1
        have hL : Lp w S n (k + 1) (w3.setCell ⟨w.heap.size + 1, 1, none⟩ (.slice o' (k + 1) c')) := by
          refine ⟨?_, ?_, ⟨_, HY3.out.set1 _, ?_⟩, ?_⟩
          · refine Sb.far (row := some (w.heap.size + 1)) (Sb.far (Sb.far hSa (by omega) hgl (by simp)) (by simp; omega) hgrow (fun e => by have := hvb _ e; omega)) ?_ (gb_set _ _ _ _) (fun e => by injection e with e; omega)
            have := hgrow.size
            simp at this
            omega
          · exact (((HX1.out.apart hga (fun e => by injection e with e; omega)).apart hgl (by simp)).apart hgrow (fun e => by have := hvb _ e; omega)).apart (gb_set _ _ _ _) (fun e => by injection e with e; omega)
          · rw [nils_succ] at hown'
            exact own_other (B := w.heap.size + 1) hown' (by omega) (gb_set _ _ _ _)
          · exact gb_new (gb_off (gb_off (HG.out.trans hga) hgl (fun _ e => by cases e)) hgrow (fun g e => by have := hvb g e; omega)) (by omega) _ _
        have HL := Lib.hid hL
        clear hL hown' hgrow hv' q0 q1 q2 qf0 qf1 qf2 y0 y1 y2 g0 g1 g2 hga hgl hSa hwa hvb hb0 u0 u1 u2 u3 u4 u5
        go_wp2
        go_roundw
        case rel => exact ⟨k + 1, by omega, by go_num, HL⟩
        case measure => simp [intOf]; omega
    · obtain rfl : k = n := by omega
      obtain ⟨hSb, hX1, ⟨v, hY1, hO⟩, hG⟩ := hL.out
      obtain ⟨o, c, rfl⟩ := own_slice hO
      have HO := Lib.hid hO; have HG := Lib.hid hG; have HX1 := Lib.hid hX1
      obtain ⟨y0, y1, y2, g0, g1, g2⟩ := hY1.cells
      obtain ⟨x0, x1, x2, f0, f1, f2⟩ := hX1.cells
      clear hSb hX1 hY1 hO hG hL HX HY HB0 HL0
      go_wp2
      refine bodyPost_ret (v := .agg #[.int .i64 k, .slice o k c, .int .i64 0]) (by simp [results, Try.results11, go_sem, x0, x1, x2]) rfl ⟨⟨_, _, rfl, ?_⟩, ?_⟩
      · exact own_lower (own_other (B := w.heap.size) (own_other (B := w.heap.size) (own_other (B := w.heap.size) HO.out (by omega) (gb_set _ _ 0 (.int .i64 k))) (by omega) (gb_set _ _ 1 (.slice o k c))) (by omega) (gb_set _ _ 2 (.int .i64 0))) (by omega)
      · exact gb_new (gb_new (gb_new HG.out (Nat.le_refl _) _ _) (Nat.le_refl _) _ _) (Nat.le_refl _) _ _
end Go.Proofs.Ytnnfeblcgnaokaa
