/- Contracts of the sieve of a list by another one, in the program and in the model; over this seat's translation. -/
import Derived.Test.YtabkjjbhnapgpaaSg
import Derived.Test.YtabkjjbhnapgpaaVs
import Derived.Test.YtabkjjbhnapgpaaMo
namespace Go.Proofs.Ytabkjjbhnapgpaa
open Go.RowKit Go.Deep Go.ChangeShapes Go.WideShapes Go.ChangeAt

theorem LiEnd.lower {l : List Int} {w W w' : World} {e : Ending} (h : LiEnd l W e w') (hb : Below w.heap.size w W) : LiEnd l w e w' := by
  obtain ⟨⟨bo, c, he, ho⟩, h2⟩ := h
  exact ⟨⟨bo, c, he, own_lower ho hb.size⟩, hb.trans (h2.mono hb.size)⟩
/-- What gathers the first k of a list: some of them, in a row of the call's own. -/
def Sifted (a b : List Int) (hs : Bool) (k : Nat) (w : World) (v : Value) (wr : World) : Prop :=
  wr.ownsRow w.heap.size 3 1 v (siftR (a.take k) b hs).length ((siftR (a.take k) b hs).map (Value.int .i64)) ∧ Below w.heap.size w wr
theorem Sifted.start (a b : List Int) (hs : Bool) (w : World) : Sifted a b hs 0 w (.slice none 0 0) w := ⟨World.ownsRow_nil _ _ _ _, Below.refl _ _⟩
theorem Sifted.skip {a b : List Int} {hs : Bool} {k : Nat} {w wr : World} {v : Value} (h : Sifted a b hs k w v wr) (hk : k < a.length) (hx : decide (at0 a k ∈ b) ≠ hs) : Sifted a b hs (k + 1) w v wr := by
  unfold Sifted; rw [sift_no hk hx]; exact h
theorem Sifted.take {a b : List Int} {hs : Bool} {k : Nat} {w wr w2 : World} {v v' : Value} {o : Obj} (h : Sifted a b hs k w v wr) (hk : k < a.length) (hx : decide (at0 a k ∈ b) = hs)
    (ho : w2.ownsRow w.heap.size 3 1 v' ((siftR (a.take k) b hs).length + 1) ((siftR (a.take k) b hs).map (Value.int .i64) ++ [.int .i64 (at0 a k)])) (hg : (wr.alloc o).grownBy w2 v.ownBlock) : Sifted a b hs (k + 1) w v' w2 := by
  unfold Sifted; rw [sift_yes hk hx, List.length_append, List.map_append]
  exact ⟨ho, own_grown (h.2.alloc h.2.size o) (h.1.alloc o) hg (Nat.le_refl _)⟩
theorem sift_short (a b : List Int) (hs : Bool) (k : Nat) : (siftR (a.take k) b hs).length ≤ a.length := Nat.le_trans (siftR_len _ _ _) (by rw [List.length_take]; omega)
theorem Sifted.done {a b : List Int} {hs : Bool} {w w' : World} {v : Value} (h : Sifted a b hs a.length w v w') : LiEnd (siftR a b hs) w (.returned v) w' := by
  unfold Sifted at h; rw [sift_all] at h; exact li_end h.1 h.2
theorem Sifted.below {a b : List Int} {hs : Bool} {k : Nat} {w wr w1 : World} {v : Value} (h : Sifted a b hs k w v wr) (hb : Below wr.heap.size wr w1) : Sifted a b hs k w v w1 := ⟨own_below h.1 hb, h.2.trans (hb.mono h.2.size)⟩

theorem placeI (ao : Option Addr) (cap : Nat) (l : List Int) (x : Int) (hg : upR l) (h20 : l.length ≤ 1048576) (w : World) (h : IRow w w.heap.size ao l) :
    Calls Try.prog 89 #[.agg #[.slice ao l.length cap, .func (.func 82) #[] #[]], .int .i64 x] w fun e w' => (∃ i : Int, e = .returned (.tuple #[.int .i64 i, .bool (decide (x ∈ l))])) ∧ Below w.heap.size w w' := by
  have HB0 := Lib.hid ((Below.refl w.heap.size w).alloc (Nat.le_refl _) (.cells #[.slice ao l.length cap, .func (.func 82) #[] #[]] 76))
  have HR0 := Lib.hid (h.after HB0.out)
  have HC := Lib.hid (fun W hW => searchI ao cap l x hg h20 W hW)
  clear h hg
  go_enter Try.func89, Try.ntmps89
  go_wp2_with fail
  refine (HC.out _ HR0.out).mono ?_
  rintro e w1 ⟨⟨i, rfl⟩, rfl⟩
  go_wp2
  go_ret2
  exact ⟨⟨i, rfl⟩, HB0.out⟩

set_option maxHeartbeats 4000000 in
set_option maxRecDepth 100000 in
theorem siftedI (ao bo : Option Addr) (c d : Nat) (a b : List Int) (hs : Bool) (ha20 : a.length ≤ 20) (hgb : upR b) (hb20 : b.length ≤ 1048576) (w : World) (ha : IRow w w.heap.size ao a) (hb : IRow w w.heap.size bo b) :
    Calls Try.prog 81 #[.agg #[.slice ao a.length c, .func (.func 82) #[] #[]], .agg #[.slice bo b.length d, .func (.func 82) #[] #[]], .bool hs] w (LiEnd (siftR a b hs) w) := by
  have HB0 := Lib.hid (((Below.refl w.heap.size w).alloc (Nat.le_refl _) (.cells #[.slice ao a.length c, .func (.func 82) #[] #[]] 76)).alloc (by simp) (.cells #[.slice bo b.length d, .func (.func 82) #[] #[]] 76))
  have HX0 := Lib.hid ((Bt.new w (.slice ao a.length c) (.func (.func 82) #[] #[]) 76).alloc (.cells #[.slice bo b.length d, .func (.func 82) #[] #[]] 76))
  have HY0 := Lib.hid (Bt.new (w.alloc (.cells #[.slice ao a.length c, .func (.func 82) #[] #[]] 76)) (.slice bo b.length d) (.func (.func 82) #[] #[]) 76)
  rw [World.size_alloc] at HY0
  have HA := Lib.hid (ha.after HB0.out); have HB := Lib.hid (hb.after HB0.out)
  obtain ⟨i0, hi, hz0, hz1, hz2⟩ := info_parts Try.info3
  have HP := Lib.hid (fun x W hW => placeI bo d b x hgb hb20 W hW)
  have hsz0 : ((w.alloc (.cells #[.slice ao a.length c, .func (.func 82) #[] #[]] 76)).alloc (.cells #[.slice bo b.length d, .func (.func 82) #[] #[]] 76)).heap.size = w.heap.size + 2 := by simp
  have HSz0 := Lib.hid hsz0
  clear ha hb hgb hsz0
  obtain ⟨x0, x1, _⟩ := HX0.out.cells
  go_enter Try.func81, Try.ntmps81
  go_wp2
  clear x0 x1
  generalize (w.alloc (.cells #[.slice ao a.length c, .func (.func 82) #[] #[]] 76)).alloc (.cells #[.slice bo b.length d, .func (.func 82) #[] #[]] 76) = w0 at HB0 HX0 HY0 HA HB HSz0 ⊢
  go_loopw [7, 15] (fun v i wr => ∃ k : Nat, k ≤ a.length ∧ i = .int .i64 k ∧ Hid (Sifted a b hs k w0 v wr)) (fun _ i _ => a.length - (intOf i).toNat)
  case atStart => exact ⟨0, Nat.zero_le _, rfl, Lib.hid (Sifted.start _ _ _ _)⟩
  case round =>
    obtain ⟨k, hk, rfl, hS⟩ := hrel
    by_cases hlt : k < a.length
    · have HRA := Lib.hid (HA.out.after hS.out.2); have HRB := Lib.hid (HB.out.after hS.out.2)
      obtain ⟨p, off, hao, hbl, hc⟩ := HRA.out.2 (by omega)
      subst hao
      have c1 := hc k hlt
      rw [← at0_get hlt] at c1
      have HC := Lib.hid (HP.out (at0 a k) _ HRB.out)
      obtain ⟨y0, y1, _⟩ := (HY0.out.below hS.out.2).cells
      clear hc
      by_cases hx : decide (at0 a k ∈ b) = hs
      · have HT := Lib.hid (fun (wa w2 : World) (v' : Value) (o : Obj) (hb : Below wr.heap.size wr wa) ho hg => Sifted.take (wr := wa) (w2 := w2) (v' := v') (o := o) ⟨own_below hS.out.1 hb, hS.out.2.trans (hb.mono hS.out.2.size)⟩ hlt hx ho hg)
        have hl := sift_short a b hs k
        have HO := Lib.hid hS.out.1
        have HSz := Lib.hid hS.out.2.size
        have hss : (hs == hs) = true := by cases hs <;> rfl
        rw [hx] at HC
        clear hx
        generalize at0 a k = x at c1 HC HT
        generalize siftR (a.take k) b hs = q at HT hl HO
        go_wp2_with fail
        refine HC.out.mono ?_
        rintro e w1 ⟨⟨i, rfl⟩, hb1⟩
        have HB1 := Lib.hid hb1
        have HO1 := Lib.hid (own_below HO.out hb1)
        clear hb1
        go_wp2_with (at_builtin; refine wpList_append_own _ rfl _ _ 22 rfl w0.heap.size 3 i0 (.int .i64 0) 1 8 Try.underlying22 hi hz0 hz1 hz2 rfl (by decide) _ _ _ rfl (HO1.out.alloc _) ⟨w1.heap.size, 0, none⟩ 1 1 [.int .i64 x] rfl rfl new_cell ?c2 ?c3 ?c4 ?c5 ?_)
        case c2 => intro u hu; simp at hu; subst hu; rfl
        case c3 => unfold maxLen; omega
        case c4 => omega
        case c5 => have h1 := HSz.out; have h2 := HB1.out.size; simp; omega
        intro v' w4 hown' hgrow _
        have HR := Lib.hid (HT.out _ _ _ _ HB1.out hown' hgrow)
        clear hown' hgrow
        go_wp2
        go_roundw
        case rel => exact ⟨k + 1, by omega, by go_num, HR⟩
        case measure => simp [intOf]; omega
      · have HR := Lib.hid (hS.out.skip hlt hx)
        have hxf : (decide (at0 a k ∈ b) == hs) = false := beq_eq_false_iff_ne.2 hx
        clear hx
        generalize decide (at0 a k ∈ b) = r at HC hxf
        generalize at0 a k = x at c1 HC
        go_wp2_with fail
        refine HC.out.mono ?_
        rintro e w1 ⟨⟨i, rfl⟩, hb1⟩
        have HR1 := Lib.hid (HR.out.below hb1)
        clear hb1
        go_wp2
        go_roundw
        case rel => exact ⟨k + 1, by omega, by go_num, HR1⟩
        case measure => simp [intOf]; omega
    · obtain rfl : k = a.length := by omega
      have HE := Lib.hid ((hS.out.done).lower HB0.out)
      clear hS
      go_wp2
      go_ret
      exact HE.out

set_option maxHeartbeats 1000000 in
theorem inFirstI (ao bo : Option Addr) (c d : Nat) (a b : List Int) (ha20 : a.length ≤ 20) (hgb : upR b) (hb20 : b.length ≤ 1048576) (w : World) (ha : IRow w w.heap.size ao a) (hb : IRow w w.heap.size bo b) :
    Calls Try.prog 55 #[.agg #[.slice ao a.length c, .func (.func 82) #[] #[]], .agg #[.slice bo b.length d, .func (.func 82) #[] #[]]] w (LiEnd (siftR a b false) w) := by
  have HB0 := Lib.hid (((Below.refl w.heap.size w).alloc (Nat.le_refl _) (.cells #[.slice ao a.length c, .func (.func 82) #[] #[]] 76)).alloc (by simp) (.cells #[.slice bo b.length d, .func (.func 82) #[] #[]] 76))
  have HA := Lib.hid (ha.after HB0.out); have HB := Lib.hid (hb.after HB0.out)
  have HC := Lib.hid (fun W h1 h2 => siftedI ao bo c d a b false ha20 hgb hb20 W h1 h2)
  clear ha hb hgb
  go_enter Try.func55, Try.ntmps55
  go_wp2_with fail
  refine (HC.out _ HA.out HB.out).mono ?_
  rintro e w1 h1
  have HE := Lib.hid (h1.lower HB0.out)
  obtain ⟨⟨qo, qc, rfl, _⟩, _⟩ := h1
  go_wp2
  go_ret
  exact HE.out


set_option maxHeartbeats 2000000 in
set_option maxRecDepth 100000 in
theorem withoutM (ao : Option Addr) (c : Nat) (a : List Int) (y : Int) (ha20 : a.length ≤ 20) (w : World) (ha : IRow w w.heap.size ao a) :
    Calls Try.prog 79 #[.slice ao a.length c, .int .i64 y] w (LiEnd (siftR a [y] false) w) := by
  have HA := Lib.hid ha
  obtain ⟨i0, hi, hz0, hz1, hz2⟩ := info_parts Try.info3
  clear ha
  go_enter Try.func79, Try.ntmps79
  go_wp2
  go_loopw [5, 10] (fun v i wr => ∃ k : Nat, k ≤ a.length ∧ i = .int .i64 k ∧ Hid (Sifted a [y] false k w v wr)) (fun _ i _ => a.length - (intOf i).toNat)
  case atStart => exact ⟨0, Nat.zero_le _, rfl, Lib.hid (Sifted.start _ _ _ _)⟩
  case round =>
    obtain ⟨k, hk, rfl, hS⟩ := hrel
    by_cases hlt : k < a.length
    · have HRA := Lib.hid (HA.out.after hS.out.2)
      obtain ⟨p, off, hao, hbl, hc⟩ := HRA.out.2 (by omega)
      subst hao
      have c1 := hc k hlt
      rw [← at0_get hlt] at c1
      clear hc
      by_cases hx : decide (at0 a k ∈ [y]) = false
      · have HT := Lib.hid (fun (w2 : World) (v' : Value) (o : Obj) ho hg => Sifted.take (w2 := w2) (v' := v') (o := o) hS.out hlt hx ho hg)
        have hl := sift_short a [y] false k
        have HO := Lib.hid hS.out.1
        have HSz := Lib.hid hS.out.2.size
        have hne : (at0 a k != y) = true := by simp at hx; simpa using hx
        clear hx
        generalize at0 a k = x at c1 HT hne
        generalize siftR (a.take k) [y] false = q at HT hl HO
        go_wp2_with (at_builtin; refine wpList_append_own _ rfl _ _ 22 rfl w.heap.size 3 i0 (.int .i64 0) 1 8 Try.underlying22 hi hz0 hz1 hz2 rfl (by decide) _ _ _ rfl (HO.out.alloc _) ⟨wr.heap.size, 0, none⟩ 1 1 [.int .i64 x] rfl rfl new_cell ?c2 ?c3 ?c4 ?c5 ?_)
        case c2 => intro u hu; simp at hu; subst hu; rfl
        case c3 => unfold maxLen; omega
        case c4 => omega
        case c5 => have h1 := HSz.out; simp; omega
        intro v' w4 hown' hgrow _
        have HR := Lib.hid (HT.out _ _ _ hown' hgrow)
        clear hown' hgrow
        go_wp2
        go_roundw
        case rel => exact ⟨k + 1, by omega, by go_num, HR⟩
        case measure => simp [intOf]; omega
      · have HR := Lib.hid (hS.out.skip hlt hx)
        have hne : (at0 a k != y) = false := by simp at hx; simpa using hx
        clear hx
        generalize at0 a k = x at c1 hne
        go_wp2
        go_roundw
        case rel => exact ⟨k + 1, by omega, by go_num, HR⟩
        case measure => simp [intOf]; omega
    · obtain rfl : k = a.length := by omega
      have HE := Lib.hid (hS.out.done)
      clear hS
      go_wp2
      go_ret
      exact HE.out
end Go.Proofs.Ytabkjjbhnapgpaa
