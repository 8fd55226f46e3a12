/- What every card of this seat leans on: the listed tables give what the walks ask of them, and a named variable reads behind a call that writes nothing old as it read before. -/
import Derived.Test.YtpbcgfgjdimpmaaDoorCards
import Derived.Test.YtpbcgfgjdimpmaaDoorTie
import Derived.Test.YtpbcgfgjdimpmaaDoorNames
import Derived.WalkKit
import Derived.ProofKit
import Derived.OpenShut
import Derived.Deep.DeepHandedRow
import Derived.Lib.LaidTab
import Derived.LaidSub
import Derived.ChangeMaps5
import Derived.SliceStrings
namespace Go.Proofs.YtpbcgfgjdimpmaaDoor
open Go.ChangeShapes Go.WideShapes Go.ChangeAt Go.RowKit

theorem var_below {P : Program} {W W' : World} {n : String} {cs : Array Value} (hb : Below W.heap.size W W') (h : W.var? P n = some cs) : W'.var? P n = some cs := by
  unfold World.var? at h ⊢
  cases hg : P.globalNamed n with
  | none => rw [hg] at h; cases h
  | some g =>
    rw [hg] at h
    simp only [Option.bind_some] at h ⊢
    cases hc : W.heap[g]? with
    | none => rw [hc] at h; cases h
    | some o =>
      rw [hb.block g (Array.getElem?_eq_some_iff.1 hc).1, hc]
      rw [hc] at h
      exact h

theorem vars_below {H : Type} {enc : TypeId × Value → H} {P : Program} (hl : laidOutB P = true) {W W' : World} (hb : Below W.heap.size W W') :
    ∀ {ns : List String} {gs : List (DataW H)} {ps : List MemPlace}, DataW.TrodVars enc P W (fun _ => true) ns gs ps →
      (∀ n ∈ ns, ∀ g t, P.globalNamed n = some g → (P.globals[g]?).map (·.type) = some t → P.readableRec t = true ∧ t < P.types.size) → DataW.TrodVars enc P W' (fun b => decide (b < W.heap.size)) ns gs ps
  | [], [], _, h, _ => h
  | n :: ns, d :: ds, ps, h, hr => by
    obtain ⟨g, t, cs, fuel, p, q, h1, h2, h3, h4, h5, e⟩ := h
    obtain ⟨r1, r2⟩ := hr n (by simp) g t h1 h2
    have hT : DataW.Trod enc P W 0 (fun _ => true) true t (.agg cs) d p := ⟨fuel, h4⟩
    obtain ⟨fuel', h4'⟩ := Below.trod hl r1 r2 hT hb (fun x hx => DataW.trod_lt _ _ _ _ h4 x hx)
    exact ⟨g, t, cs, fuel', p, q, h1, h2, var_below hb h3, h4', vars_below hl hb h5 (fun m hm => hr m (by simp [hm])), e⟩
  | [], _ :: _, _, h, _ => h.elim
  | _ :: _, [], _, h, _ => h.elim

theorem gSpans : Tryd.prog.globalNamed "loop.example/g00747/impl.nameSpans" = some 0 := by kernel_rfl
theorem gSpansType : (Tryd.prog.globals[0]?).map (·.type) = some 146 := by kernel_rfl
theorem gBarred : Tryd.prog.globalNamed "loop.example/g00747/impl.barredInWord" = some 1 := by kernel_rfl
theorem gBarredType : (Tryd.prog.globals[1]?).map (·.type) = some 147 := by kernel_rfl
theorem cells97 : Tryd.prog.cellsOf 146 = 6 := by kernel_rfl
theorem cells96 : Tryd.prog.cellsOf 145 = 2 := by kernel_rfl
theorem cells21 : Tryd.prog.cellsOf 21 = 1 := by kernel_rfl
theorem cells120 : Tryd.prog.cellsOf 147 = 4 := by kernel_rfl

section
variable {H : Type} {enc : TypeId × Value → H} {W : World} {base : Nat} {sp : Nat → Bool} {held : Bool}
theorem pair_of {fuel : Nat} {a b : Value} {x y : Int} {r : DataW H × List MemPlace} (h : DataW.trod enc Tryd.prog W base sp held fuel 145 [a, b] = some r) (hr : r.1 = .agg [.lit (.int .i32 x), .lit (.int .i32 y)]) : a = .int .i32 x ∧ b = .int .i32 y := by
  obtain ⟨xs, n, _, hx, _, hlen, hf⟩ := DataW.trod_struct Tryd.underlying145 h
  have h0 := hf 0 _ rfl
  have h1 := hf 1 _ rfl
  rw [hx] at hr
  match xs, hlen with
  | [x0, x1], _ =>
    simp [cells21] at h0 h1 hr
    obtain ⟨n0, e0, k0, _⟩ := DataW.trod_int Tryd.underlying21 h0
    obtain ⟨n1, e1, k1, _⟩ := DataW.trod_int Tryd.underlying21 h1
    subst k0 k1
    simp at e0 e1 hr
    exact ⟨by rw [e0, hr.1], by rw [e1, hr.2]⟩
end

set_option maxRecDepth 100000 in
theorem spans_of {W : World} (h : laidMet Tryd.prog [("loop.example/g00747/impl.nameSpans", Rows.laid_loop_example_g00747_impl_nameSpans)] W) : Spans W := by
  obtain ⟨ps, ⟨g', t', cs, fuel, p, q, hg', ht', hvar, hd, _, _⟩, _⟩ := h
  obtain rfl := Option.some.inj (gSpans.symm.trans hg')
  obtain rfl := Option.some.inj (gSpansType.symm.trans ht')
  obtain ⟨xs, m, _, hx, hlen, hxl, hi⟩ := DataW.trod_array Tryd.underlying146 hd
  rw [cells97] at hlen
  have h0 := hi 0 (by omega)
  have h1 := hi 1 (by omega)
  have h2 := hi 2 (by omega)
  obtain ⟨l⟩ := cs
  match l, hlen, xs, hxl with
  | [c0, c1, c2, c3, c4, c5], _, [x0, x1, x2], _ =>
    have hx1 := congrArg Prod.fst hx
    simp only [Rows.laid_loop_example_g00747_impl_nameSpans, List.map_cons, List.map_nil, DataW.agg.injEq, List.cons.injEq, and_true] at hx1
    simp only [cells96, List.getElem?_cons_zero, List.getElem?_cons_succ] at h0 h1 h2
    obtain ⟨rfl, rfl⟩ := pair_of h0 hx1.1.symm
    obtain ⟨rfl, rfl⟩ := pair_of h1 hx1.2.1.symm
    obtain ⟨rfl, rfl⟩ := pair_of h2 hx1.2.2.symm
    unfold World.var? at hvar
    rw [gSpans] at hvar
    simp only [Option.bind_some] at hvar
    refine ⟨?_⟩
    cases hc : W.heap[0]? with
    | none => rw [hc] at hvar; cases hvar
    | some o =>
      rw [hc] at hvar
      cases o with
      | cells c t fr =>
        simp only [Option.some.injEq] at hvar
        rw [hvar]
        exact ⟨t, fr, rfl⟩
      | _ => cases hvar

theorem barred_of {W : World} (h : laidMet Tryd.prog [("loop.example/g00747/impl.barredInWord", Rows.laid_loop_example_g00747_impl_barredInWord)] W) : ∃ t fr, W.heap[1]? = some (.cells #[.int .i32 34, .int .i32 44, .int .i32 123, .int .i32 125] t fr) := by
  have ht : Lib.TabIs Tryd.prog W "loop.example/g00747/impl.barredInWord" .i32 [34, 44, 123, 125] :=
    Lib.tabIs_of_head (rest := []) gBarred gBarredType Tryd.underlying147 Tryd.underlying21 cells21 cells120 h
  unfold Lib.TabIs World.var? at ht
  rw [gBarred] at ht
  simp only [Option.bind_some] at ht
  cases hc : W.heap[1]? with
  | none => rw [hc] at ht; cases ht
  | some o =>
    rw [hc] at ht
    cases o with
    | cells c t fr =>
      simp only [Option.some.injEq] at ht
      rw [ht]
      exact ⟨t, fr, rfl⟩
    | _ => cases ht

def setRow (cs : Array Value) : Obj → Obj
  | .cells _ t frozen => .cells cs t frozen
  | o => o
/-- A world for the witnesses: the settled one, both tables holding what their initialisers lay. -/
noncomputable def worldT (os : Os) : World :=
  { World.holding Tryd.prog os ⟨#[], #[], []⟩ with
    heap := ((World.holding Tryd.prog os ⟨#[], #[], []⟩).heap.modify 0 (setRow #[.int .i32 97, .int .i32 122, .int .i32 48, .int .i32 57, .int .i32 95, .int .i32 95])).modify 1 (setRow #[.int .i32 34, .int .i32 44, .int .i32 123, .int .i32 125]) }

theorem read97 : Tryd.prog.readableRec 146 = true ∧ 146 < Tryd.prog.types.size := ⟨by kernel_rfl, of_decide_eq_true (by kernel_rfl)⟩
theorem read120 : Tryd.prog.readableRec 147 = true ∧ 147 < Tryd.prog.types.size := ⟨by kernel_rfl, of_decide_eq_true (by kernel_rfl)⟩
theorem laidOutT : laidOutB Tryd.prog = true := by kernel_rfl
theorem readOne : ∀ n ∈ ["loop.example/g00747/impl.nameSpans"], ∀ g t, Tryd.prog.globalNamed n = some g → (Tryd.prog.globals[g]?).map (·.type) = some t → Tryd.prog.readableRec t = true ∧ t < Tryd.prog.types.size := by
  intro n hn g t h1 h2
  simp at hn
  subst hn
  obtain rfl := Option.some.inj (gSpans.symm.trans h1)
  obtain rfl := Option.some.inj (gSpansType.symm.trans h2)
  exact read97
theorem readTwo : ∀ n ∈ ["loop.example/g00747/impl.nameSpans", "loop.example/g00747/impl.barredInWord"], ∀ g t, Tryd.prog.globalNamed n = some g → (Tryd.prog.globals[g]?).map (·.type) = some t → Tryd.prog.readableRec t = true ∧ t < Tryd.prog.types.size := by
  intro n hn g t h1 h2
  simp at hn
  rcases hn with rfl | rfl
  · obtain rfl := Option.some.inj (gSpans.symm.trans h1)
    obtain rfl := Option.some.inj (gSpansType.symm.trans h2)
    exact read97
  · obtain rfl := Option.some.inj (gBarred.symm.trans h1)
    obtain rfl := Option.some.inj (gBarredType.symm.trans h2)
    exact read120
end Go.Proofs.YtpbcgfgjdimpmaaDoor
