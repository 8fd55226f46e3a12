/- Contracts of NewTable in the program, whole; over this seat's translation. -/
import Derived.Test.YtnnfeblcgnaokaaNw
namespace Go.Proofs.Ytnnfeblcgnaokaa
open Go.RowKit Go.Deep Go.ChangeShapes Go.WideShapes Go.ChangeAt

set_option maxHeartbeats 4000000 in
theorem newI_no (n : Int) (hm : many n = false) (w : World) :
    Calls Try.prog 5 #[.int .i64 n] w fun e w' => e = .returned (.tuple #[.agg #[.int .i64 0, .slice none 0 0, .int .i64 0], .bool false]) ∧ Below w.heap.size w w' := by
  have HM := Lib.hid (manyI n)
  rw [hm] at HM
  clear hm
  have HX := Lib.hid (Tt.new w (.int .i64 0) (.slice none 0 0) (.int .i64 0) 24)
  have HB := Lib.hid ((Below.refl w.heap.size w).alloc (Nat.le_refl _) (.cells #[.int .i64 0, .slice none 0 0, .int .i64 0] 24))
  go_enter Try.func5, Try.ntmps5
  go_wp2_with fail
  refine (HM.out _).mono ?_
  rintro e w1 ⟨rfl, rfl⟩
  obtain ⟨x0, x1, x2, f0, f1, f2⟩ := HX.out.cells
  go_wp2
  exact bodyPost_ret (v := .tuple #[.agg #[.int .i64 0, .slice none 0 0, .int .i64 0], .bool false]) (by simp [results, Try.results5, go_sem, x0, x1, x2]) rfl ⟨rfl, HB.out⟩
def isI (k : IntKind) : Option Value → Bool
  | some (.int k' x) => decide (k' = k) && decide (x = 0)
  | _ => false
theorem isI_eq {k : IntKind} {o : Option Value} (h : isI k o = true) : o = some (.int k 0) := by
  unfold isI at h
  split at h
  · simp at h; rw [h.1, h.2]
  · cases h
def okC (cs : Array Value) (k : Nat) : Bool := (cs[k * 47]?).isSome && (cs[k * 47 + 2]?).isSome && (cs[k * 47 + 3]?).isSome && isI .i32 cs[k * 47 + 4]? && isI .i64 cs[k * 47 + 46]?
def okZ : Option TypeInfo → Bool
  | some i => (match i.zero with
    | some (.agg cs) => okC cs 0 && okC cs 1 && okC cs 2 && okC cs 3
    | _ => false)
  | none => false
theorem okZ50 : okZ (Try.prog.info? 50) = true := by kernel_rfl
theorem zero50 : ∃ cs, (∀ W, (zeroValue 50).run Try.prog W = .ok (.agg cs) W) ∧ ∀ k, k < 4 → okC cs k = true := by
  have h := okZ50
  cases hi : Try.prog.info? 50 with
  | none => rw [hi] at h; cases h
  | some i =>
    rw [hi] at h
    simp only [okZ] at h
    split at h
    · rename_i cs hz
      simp only [Bool.and_eq_true] at h
      refine ⟨cs, fun W => by simp [zeroValue, typeInfo, hi, hz], fun k hk => ?_⟩
      match k, hk with
      | 0, _ => exact h.1.1.1
      | 1, _ => exact h.1.1.2
      | 2, _ => exact h.1.2
      | 3, _ => exact h.2
    · cases h
theorem Sb.of {W : World} {S : Nat} {cs : Array Value} {t : TypeId} (hb : W.heap[S]? = some (.cells cs t)) (h : ∀ k, k < 4 → okC cs k = true) : Sb W S := by
  intro k hk
  have e := h k hk
  simp only [okC, Bool.and_eq_true, Option.isSome_iff_exists] at e
  obtain ⟨⟨⟨⟨⟨x, c0⟩, ⟨y, c2⟩⟩, ⟨z, c3⟩⟩, c4⟩, c46⟩ := e
  refine ⟨⟨x, ?_⟩, ⟨y, ?_⟩, ⟨z, ?_⟩, ?_, ?_, ?_⟩
  · simp [World.cell?, hb, c0]
  · simp [World.cell?, hb, c2]
  · simp [World.cell?, hb, c3]
  · simp [World.cell?, hb, isI_eq c4]
  · simp [World.cell?, hb, isI_eq c46]
  · simp [World.frozen?, hb]
theorem Sb.new (w : World) {cs : Array Value} (t : TypeId) (h : ∀ k, k < 4 → okC cs k = true) : Sb (w.alloc (.cells cs t)) w.heap.size := Sb.of (blk_alloc_new w (.cells cs t)) h

set_option maxHeartbeats 4000000 in
set_option maxRecDepth 100000 in
theorem newI (n : Nat) (hn : n ≤ 4) (hm : many n = true) (w : World) :
    Calls Try.prog 5 #[.int .i64 n] w fun e w' => (∃ ao c, e = .returned (.tuple #[.agg #[.int .i64 n, .slice ao n c, .int .i64 0], .bool true]) ∧ NR w' ao n) ∧ Below w.heap.size w w' := by
  have HM := Lib.hid (manyI n)
  rw [hm] at HM
  clear hm
  have HZ := Lib.hid (Tt.new w (.int .i64 0) (.slice none 0 0) (.int .i64 0) 24)
  have HB := Lib.hid ((Below.refl w.heap.size w).alloc (Nat.le_refl _) (.cells #[.int .i64 0, .slice none 0 0, .int .i64 0] 24))
  have HT := Lib.hid (fun S W h hS => tableI S n hn W h hS)
  go_enter Try.func5, Try.ntmps5
  go_wp2_with fail
  refine (HM.out _).mono ?_
  rintro e w1 ⟨rfl, rfl⟩
  obtain ⟨cs, hz, hok⟩ := zero50
  have HS := Lib.hid (Sb.new (w.alloc (.cells #[.int .i64 0, .slice none 0 0, .int .i64 0] 24)) 50 hok)
  have HZ2 := Lib.hid (HZ.out.alloc (.cells cs 50))
  have HB2 := Lib.hid (HB.out.alloc (by simp) (.cells cs 50))
  rw [World.size_alloc] at HS
  clear hok
  go_wp2_with fail
  refine (HT.out (w.heap.size + 1) _ HS.out (by simp)).mono ?_
  rintro e w1 ⟨⟨ao, c, rfl, hN⟩, hG⟩
  have HN := Lib.hid hN
  have HB3 := Lib.hid (HB2.out.grown hG (by simp; omega) (fun k e => by injection e with e; omega))
  obtain ⟨z0, z1, z2, f0, f1, f2⟩ := (HZ2.out.apart hG (fun e => by injection e with e; omega)).cells
  clear hN hG
  go_wp2
  refine bodyPost_ret (v := .tuple #[.agg #[.int .i64 n, .slice ao n c, .int .i64 0], .bool true]) (by simp [results, Try.results5, go_sem, z0, z1, z2]) rfl ⟨⟨_, _, rfl, ?_⟩, ?_⟩
  · have hN := HN.out
    simp only [World.size_alloc] at hN
    obtain ⟨ao', c', e, hN⟩ := NR.of_own (own_other (B := w.heap.size) (own_other (B := w.heap.size) (own_other (B := w.heap.size) hN (by omega) (gb_set _ _ 0 (.int .i64 n))) (by omega) (gb_set _ _ 1 (.slice ao n c))) (by omega) (gb_set _ _ 2 (.int .i64 0)))
    injection e with e1 e2 e3
    subst e1
    exact hN
  · exact ((HB3.out.setCell (Nat.le_refl _) _).setCell (Nat.le_refl _) _).setCell (Nat.le_refl _) _
end Go.Proofs.Ytnnfeblcgnaokaa
