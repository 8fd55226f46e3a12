/- Contracts of BothOf and LessOf in the program, over this seat's translation. -/
import Derived.Test.YtgibjdmjemalcaaRf7
import Derived.Test.YtgibjdmjemalcaaRg
namespace Go.Proofs.Ytgibjdmjemalcaa
open Go.RowKit Go.Deep

theorem own_lower {w : World} {base base' : Nat} {e : TypeId} {s : Nat} {v : Value} {n : Nat} {xs : List Value} (h : w.ownsRow base e s v n xs) (hB : base' ≤ base) : w.ownsRow base' e s v n xs := by
  obtain ⟨h0, ⟨h1, h2⟩ | ⟨g, cap, cur, h1, hge, hr⟩⟩ := h
  · exact ⟨h0, .inl ⟨h1, h2⟩⟩
  · exact ⟨h0, .inr ⟨g, cap, cur, h1, Nat.le_trans hB hge, hr⟩⟩
theorem LiEnd.lower {l : List Int} {w W w' : World} {e : Ending} (h : LiEnd l W e w') (hb : Below w.heap.size w W) : LiEnd l w e w' := by
  obtain ⟨⟨bo, c, he, ho⟩, h2⟩ := h
  exact ⟨⟨bo, c, he, own_lower ho hb.size⟩, hb.trans (h2.mono hb.size)⟩
theorem Sifted.below {a b : List Int} {hs : Bool} {k : Nat} {w wr w1 : World} {v : Value} (h : Sifted a b hs k w v wr) (hb : Below wr.heap.size wr w1) : Sifted a b hs k w v w1 := ⟨own_below h.1 hb, h.2.trans (hb.mono h.2.size)⟩

theorem placeI (ao : Option Addr) (cap : Nat) (l : List Int) (x : Int) (hg : GoodR l) (w : World) (h : IRow w w.heap.size ao l) :
    Calls Try.prog 38 #[.agg #[.slice ao l.length cap, .func (.func 37) #[] #[]], .int .i64 x] w fun e w' => (∃ i : Int, e = .returned (.tuple #[.int .i64 i, .bool (decide (x ∈ l))])) ∧ Below w.heap.size w w' := by
  have HB0 := Lib.hid ((Below.refl w.heap.size w).alloc (Nat.le_refl _) (.cells #[.slice ao l.length cap, .func (.func 37) #[] #[]] 46))
  have HR0 := Lib.hid (h.after HB0.out)
  have HC := Lib.hid (fun W hW => searchI ao cap l x hg W hW)
  clear h hg
  go_enter Try.func38, Try.ntmps38
  go_wp2_with fail
  refine (HC.out _ HR0.out).mono ?_
  rintro e w1 ⟨⟨i, rfl⟩, rfl⟩
  go_wp2
  go_ret2
  exact ⟨⟨i, rfl⟩, HB0.out⟩

set_option maxHeartbeats 4000000 in
set_option maxRecDepth 100000 in
theorem siftedI (ao bo : Option Addr) (c d : Nat) (a b : List Int) (hs : Bool) (ha20 : a.length ≤ 20) (hgb : GoodR b) (w : World) (ha : IRow w w.heap.size ao a) (hb : IRow w w.heap.size bo b) :
    Calls Try.prog 30 #[.agg #[.slice ao a.length c, .func (.func 37) #[] #[]], .agg #[.slice bo b.length d, .func (.func 37) #[] #[]], .bool hs] w (LiEnd (siftR a b hs) w) := by
  have HB0 := Lib.hid (((Below.refl w.heap.size w).alloc (Nat.le_refl _) (.cells #[.slice ao a.length c, .func (.func 37) #[] #[]] 46)).alloc (by simp) (.cells #[.slice bo b.length d, .func (.func 37) #[] #[]] 46))
  have HX0 := Lib.hid ((Bt.new w (.slice ao a.length c) (.func (.func 37) #[] #[]) 46).alloc (.cells #[.slice bo b.length d, .func (.func 37) #[] #[]] 46))
  have HY0 := Lib.hid (Bt.new (w.alloc (.cells #[.slice ao a.length c, .func (.func 37) #[] #[]] 46)) (.slice bo b.length d) (.func (.func 37) #[] #[]) 46)
  rw [World.size_alloc] at HY0
  have HA := Lib.hid (ha.after HB0.out); have HB := Lib.hid (hb.after HB0.out)
  obtain ⟨i0, hi, hz0, hz1, hz2⟩ := info_parts Try.info3
  have HP := Lib.hid (fun x W hW => placeI bo d b x hgb W hW)
  have hsz0 : ((w.alloc (.cells #[.slice ao a.length c, .func (.func 37) #[] #[]] 46)).alloc (.cells #[.slice bo b.length d, .func (.func 37) #[] #[]] 46)).heap.size = w.heap.size + 2 := by simp
  have HSz0 := Lib.hid hsz0
  clear ha hb hgb hsz0
  obtain ⟨x0, x1, _⟩ := HX0.out.cells
  go_enter Try.func30, Try.ntmps30
  go_wp2
  clear x0 x1
  generalize (w.alloc (.cells #[.slice ao a.length c, .func (.func 37) #[] #[]] 46)).alloc (.cells #[.slice bo b.length d, .func (.func 37) #[] #[]] 46) = w0 at HB0 HX0 HY0 HA HB HSz0 ⊢
  go_loopw [7, 15] (fun v i wr => ∃ k : Nat, k ≤ a.length ∧ i = .int .i64 k ∧ Hid (Sifted a b hs k w0 v wr)) (fun _ i _ => a.length - (intOf i).toNat)
  case atStart => exact ⟨0, Nat.zero_le _, rfl, Lib.hid (Sifted.start _ _ _ _)⟩
  case round =>
    obtain ⟨k, hk, rfl, hS⟩ := hrel
    by_cases hlt : k < a.length
    · have HRA := Lib.hid (HA.out.after hS.out.2); have HRB := Lib.hid (HB.out.after hS.out.2)
      obtain ⟨p, off, hao, hbl, hc⟩ := HRA.out.2 (by omega)
      subst hao
      have c1 := hc k hlt
      rw [← at0_get hlt] at c1
      have HC := Lib.hid (HP.out (at0 a k) _ HRB.out)
      obtain ⟨y0, y1, _⟩ := (HY0.out.below hS.out.2).cells
      clear hc
      by_cases hx : decide (at0 a k ∈ b) = hs
      · have HT := Lib.hid (fun (wa w2 : World) (v' : Value) (o : Obj) (hb : Below wr.heap.size wr wa) ho hg => Sifted.take (wr := wa) (w2 := w2) (v' := v') (o := o) ⟨own_below hS.out.1 hb, hS.out.2.trans (hb.mono hS.out.2.size)⟩ hlt hx ho hg)
        have hl := sift_short a b hs k
        have HO := Lib.hid hS.out.1
        have HSz := Lib.hid hS.out.2.size
        have hss : (hs == hs) = true := by cases hs <;> rfl
        rw [hx] at HC
        clear hx
        generalize at0 a k = x at c1 HC HT
        generalize siftR (a.take k) b hs = q at HT hl HO
        go_wp2_with fail
        refine HC.out.mono ?_
        rintro e w1 ⟨⟨i, rfl⟩, hb1⟩
        have HB1 := Lib.hid hb1
        have HO1 := Lib.hid (own_below HO.out hb1)
        clear hb1
        go_wp2_with (at_builtin; refine wpList_append_own _ rfl _ _ 24 rfl w0.heap.size 3 i0 (.int .i64 0) 1 8 Try.underlying24 hi hz0 hz1 hz2 rfl (by decide) _ _ _ rfl (HO1.out.alloc _) ⟨w1.heap.size, 0, none⟩ 1 1 [.int .i64 x] rfl rfl new_cell ?c2 ?c3 ?c4 ?c5 ?_)
        case c2 => intro u hu; simp at hu; subst hu; rfl
        case c3 => unfold maxLen; omega
        case c4 => omega
        case c5 => have h1 := HSz.out; have h2 := HB1.out.size; simp; omega
        intro v' w4 hown' hgrow _
        have HR := Lib.hid (HT.out _ _ _ _ HB1.out hown' hgrow)
        clear hown' hgrow
        go_wp2
        go_roundw
        case rel => exact ⟨k + 1, by omega, by go_num, HR⟩
        case measure => simp [intOf]; omega
      · have HR := Lib.hid (hS.out.skip hlt hx)
        have hxf : (decide (at0 a k ∈ b) == hs) = false := beq_eq_false_iff_ne.2 hx
        clear hx
        generalize decide (at0 a k ∈ b) = r at HC hxf
        generalize at0 a k = x at c1 HC
        go_wp2_with fail
        refine HC.out.mono ?_
        rintro e w1 ⟨⟨i, rfl⟩, hb1⟩
        have HR1 := Lib.hid (HR.out.below hb1)
        clear hb1
        go_wp2
        go_roundw
        case rel => exact ⟨k + 1, by omega, by go_num, HR1⟩
        case measure => simp [intOf]; omega
    · obtain rfl : k = a.length := by omega
      have HE := Lib.hid ((hS.out.done).lower HB0.out)
      clear hS
      go_wp2
      go_ret
      exact HE.out

set_option maxHeartbeats 1000000 in
theorem inBothI (ao bo : Option Addr) (c d : Nat) (a b : List Int) (ha20 : a.length ≤ 20) (hgb : GoodR b) (w : World) (ha : IRow w w.heap.size ao a) (hb : IRow w w.heap.size bo b) :
    Calls Try.prog 17 #[.agg #[.slice ao a.length c, .func (.func 37) #[] #[]], .agg #[.slice bo b.length d, .func (.func 37) #[] #[]]] w (LiEnd (siftR a b true) w) := by
  have HB0 := Lib.hid (((Below.refl w.heap.size w).alloc (Nat.le_refl _) (.cells #[.slice ao a.length c, .func (.func 37) #[] #[]] 46)).alloc (by simp) (.cells #[.slice bo b.length d, .func (.func 37) #[] #[]] 46))
  have HA := Lib.hid (ha.after HB0.out); have HB := Lib.hid (hb.after HB0.out)
  have HC := Lib.hid (fun W h1 h2 => siftedI ao bo c d a b true ha20 hgb W h1 h2)
  clear ha hb hgb
  go_enter Try.func17, Try.ntmps17
  go_wp2_with fail
  refine (HC.out _ HA.out HB.out).mono ?_
  rintro e w1 h1
  have HE := Lib.hid (h1.lower HB0.out)
  obtain ⟨⟨qo, qc, rfl, _⟩, _⟩ := h1
  go_wp2
  go_ret
  exact HE.out

set_option maxHeartbeats 1000000 in
theorem inFirstI (ao bo : Option Addr) (c d : Nat) (a b : List Int) (ha20 : a.length ≤ 20) (hgb : GoodR b) (w : World) (ha : IRow w w.heap.size ao a) (hb : IRow w w.heap.size bo b) :
    Calls Try.prog 23 #[.agg #[.slice ao a.length c, .func (.func 37) #[] #[]], .agg #[.slice bo b.length d, .func (.func 37) #[] #[]]] w (LiEnd (siftR a b false) w) := by
  have HB0 := Lib.hid (((Below.refl w.heap.size w).alloc (Nat.le_refl _) (.cells #[.slice ao a.length c, .func (.func 37) #[] #[]] 46)).alloc (by simp) (.cells #[.slice bo b.length d, .func (.func 37) #[] #[]] 46))
  have HA := Lib.hid (ha.after HB0.out); have HB := Lib.hid (hb.after HB0.out)
  have HC := Lib.hid (fun W h1 h2 => siftedI ao bo c d a b false ha20 hgb W h1 h2)
  clear ha hb hgb
  go_enter Try.func23, Try.ntmps23
  go_wp2_with fail
  refine (HC.out _ HA.out HB.out).mono ?_
  rintro e w1 h1
  have HE := Lib.hid (h1.lower HB0.out)
  obtain ⟨⟨qo, qc, rfl, _⟩, _⟩ := h1
  go_wp2
  go_ret
  exact HE.out

set_option maxHeartbeats 2000000 in
set_option maxRecDepth 100000 in
theorem byBothI (ao bo : Option Addr) (c d : Nat) (a b : List Int) (hn : a.length ≤ 1048576) (hm : b.length ≤ 1048576) (w : World) (ha : IRow w w.heap.size ao a) (hb : IRow w w.heap.size bo b) :
    Calls Try.prog 16 #[.func (.func 17) #[] #[], .slice ao a.length c, .slice bo b.length d] w (LbEnd (bothL a b) (okR a b) w) := by
  have HA := Lib.hid ha; have HB := Lib.hid hb
  have HGa := Lib.hid (fun W hW => goodRefsI ao c a hn W hW)
  have HGb := Lib.hid (fun W hW => goodRefsI bo d b hm W hW)
  have HC := Lib.hid (fun h1 h2 W h3 h4 => inBothI ao bo c d a b h1 h2 W h3 h4)
  have HRa := Lib.hid (fun W => rrI (.slice ao a.length c) a.length ao c rfl W)
  have HRb := Lib.hid (fun W => rrI (.slice bo b.length d) b.length bo d rfl W)
  clear ha hb
  cases hga : goodR a with
  | false =>
    have hok := okR_a (b := b) hga
    rw [bothL_no hok, hok]
    rw [hga] at HGa
    clear hga hok
    go_enter Try.func16, Try.ntmps16
    go_wp2_with fail
    refine (HGa.out _ HA.out).mono ?_
    rintro e w1 ⟨rfl, hb1⟩
    have HB1 := Lib.hid hb1
    clear hb1
    go_wp2
    go_ret2
    exact lb_none HB1.out
  | true =>
    rw [hga] at HGa
    cases hgb : goodR b with
    | false =>
      have hok := okR_b (a := a) hgb
      rw [bothL_no hok, hok]
      rw [hgb] at HGb
      clear hga hgb hok
      go_enter Try.func16, Try.ntmps16
      go_wp2_with fail
      refine (HGa.out _ HA.out).mono ?_
      rintro e w1 ⟨rfl, hb1⟩
      have HB1 := Lib.hid hb1
      clear hb1
      go_wp2_with fail
      refine (HGb.out _ (HB.out.after HB1.out)).mono ?_
      rintro e w2 ⟨rfl, hb2⟩
      have HB2 := Lib.hid (HB1.out.trans (hb2.mono HB1.out.size))
      clear hb2
      go_wp2
      go_ret2
      exact lb_none HB2.out
    | true =>
      have hok := okR_ab hga hgb
      have HC := Lib.hid (HC.out (goodR_is hga).1 (goodR_is hgb))
      have hq : (siftR a b true).length ≤ 20 := Nat.le_trans (siftR_len a b true) (goodR_is hga).1
      rw [bothL_yes hok, hok]
      rw [hgb] at HGb
      clear hga hgb hok
      unfold LiEnd at HC
      generalize siftR a b true = q at HC hq ⊢
      go_enter Try.func16, Try.ntmps16
      go_wp2_with fail
      refine (HGa.out _ HA.out).mono ?_
      rintro e w1 ⟨rfl, hb1⟩
      have HB1 := Lib.hid hb1
      clear hb1
      go_wp2_with fail
      refine (HGb.out _ (HB.out.after HB1.out)).mono ?_
      rintro e w2 ⟨rfl, hb2⟩
      have HB2 := Lib.hid (HB1.out.trans (hb2.mono HB1.out.size))
      clear hb2
      go_wp2_with fail
      refine (HRa.out _).mono ?_
      rintro e w3 ⟨rfl, hb3⟩
      have HB3 := Lib.hid (HB2.out.trans (hb3.mono HB2.out.size))
      clear hb3
      go_wp2_with fail
      refine (HRb.out _).mono ?_
      rintro e w4 ⟨rfl, hb4⟩
      have HB4 := Lib.hid (HB3.out.trans (hb4.mono HB3.out.size))
      clear hb4
      go_wp2_with fail
      refine (HC.out _ (HA.out.after HB4.out) (HB.out.after HB4.out)).mono ?_
      rintro e w5 ⟨⟨qo, qc, rfl, ho⟩, hb5⟩
      have HO := Lib.hid (own_lower ho HB4.out.size); have HB5 := Lib.hid (HB4.out.trans (hb5.mono HB4.out.size))
      clear ho hb5
      go_wp2
      go_ret2
      exact lb_some HO.out HB5.out

set_option maxHeartbeats 2000000 in
set_option maxRecDepth 100000 in
theorem byLessI (ao bo : Option Addr) (c d : Nat) (a b : List Int) (hn : a.length ≤ 1048576) (hm : b.length ≤ 1048576) (w : World) (ha : IRow w w.heap.size ao a) (hb : IRow w w.heap.size bo b) :
    Calls Try.prog 16 #[.func (.func 23) #[] #[], .slice ao a.length c, .slice bo b.length d] w (LbEnd (lessL a b) (okR a b) w) := by
  have HA := Lib.hid ha; have HB := Lib.hid hb
  have HGa := Lib.hid (fun W hW => goodRefsI ao c a hn W hW)
  have HGb := Lib.hid (fun W hW => goodRefsI bo d b hm W hW)
  have HC := Lib.hid (fun h1 h2 W h3 h4 => inFirstI ao bo c d a b h1 h2 W h3 h4)
  have HRa := Lib.hid (fun W => rrI (.slice ao a.length c) a.length ao c rfl W)
  have HRb := Lib.hid (fun W => rrI (.slice bo b.length d) b.length bo d rfl W)
  clear ha hb
  cases hga : goodR a with
  | false =>
    have hok := okR_a (b := b) hga
    rw [lessL_no hok, hok]
    rw [hga] at HGa
    clear hga hok
    go_enter Try.func16, Try.ntmps16
    go_wp2_with fail
    refine (HGa.out _ HA.out).mono ?_
    rintro e w1 ⟨rfl, hb1⟩
    have HB1 := Lib.hid hb1
    clear hb1
    go_wp2
    go_ret2
    exact lb_none HB1.out
  | true =>
    rw [hga] at HGa
    cases hgb : goodR b with
    | false =>
      have hok := okR_b (a := a) hgb
      rw [lessL_no hok, hok]
      rw [hgb] at HGb
      clear hga hgb hok
      go_enter Try.func16, Try.ntmps16
      go_wp2_with fail
      refine (HGa.out _ HA.out).mono ?_
      rintro e w1 ⟨rfl, hb1⟩
      have HB1 := Lib.hid hb1
      clear hb1
      go_wp2_with fail
      refine (HGb.out _ (HB.out.after HB1.out)).mono ?_
      rintro e w2 ⟨rfl, hb2⟩
      have HB2 := Lib.hid (HB1.out.trans (hb2.mono HB1.out.size))
      clear hb2
      go_wp2
      go_ret2
      exact lb_none HB2.out
    | true =>
      have hok := okR_ab hga hgb
      have HC := Lib.hid (HC.out (goodR_is hga).1 (goodR_is hgb))
      have hq : (siftR a b false).length ≤ 20 := Nat.le_trans (siftR_len a b false) (goodR_is hga).1
      rw [lessL_yes hok, hok]
      rw [hgb] at HGb
      clear hga hgb hok
      unfold LiEnd at HC
      generalize siftR a b false = q at HC hq ⊢
      go_enter Try.func16, Try.ntmps16
      go_wp2_with fail
      refine (HGa.out _ HA.out).mono ?_
      rintro e w1 ⟨rfl, hb1⟩
      have HB1 := Lib.hid hb1
      clear hb1
      go_wp2_with fail
      refine (HGb.out _ (HB.out.after HB1.out)).mono ?_
      rintro e w2 ⟨rfl, hb2⟩
      have HB2 := Lib.hid (HB1.out.trans (hb2.mono HB1.out.size))
      clear hb2
      go_wp2_with fail
      refine (HRa.out _).mono ?_
      rintro e w3 ⟨rfl, hb3⟩
      have HB3 := Lib.hid (HB2.out.trans (hb3.mono HB2.out.size))
      clear hb3
      go_wp2_with fail
      refine (HRb.out _).mono ?_
      rintro e w4 ⟨rfl, hb4⟩
      have HB4 := Lib.hid (HB3.out.trans (hb4.mono HB3.out.size))
      clear hb4
      go_wp2_with fail
      refine (HC.out _ (HA.out.after HB4.out) (HB.out.after HB4.out)).mono ?_
      rintro e w5 ⟨⟨qo, qc, rfl, ho⟩, hb5⟩
      have HO := Lib.hid (own_lower ho HB4.out.size); have HB5 := Lib.hid (HB4.out.trans (hb5.mono HB4.out.size))
      clear ho hb5
      go_wp2
      go_ret2
      exact lb_some HO.out HB5.out

theorem bothOfI (ao bo : Option Addr) (c d : Nat) (a b : List Int) (hn : a.length ≤ 1048576) (hm : b.length ≤ 1048576) (w : World) (ha : IRow w w.heap.size ao a) (hb : IRow w w.heap.size bo b) :
    Calls Try.prog 6 #[.slice ao a.length c, .slice bo b.length d] w (LbEnd (bothL a b) (okR a b) w) := by
  have HC := Lib.hid (byBothI ao bo c d a b hn hm w ha hb)
  clear ha hb
  go_enter Try.func6, Try.ntmps6
  go_wp2_with fail
  refine HC.out.mono ?_
  rintro e w1 h1
  have HE := Lib.hid h1
  obtain ⟨⟨qo, qc, rfl, _⟩, _⟩ := h1
  go_wp2
  go_ret2
  exact HE.out

theorem lessOfI (ao bo : Option Addr) (c d : Nat) (a b : List Int) (hn : a.length ≤ 1048576) (hm : b.length ≤ 1048576) (w : World) (ha : IRow w w.heap.size ao a) (hb : IRow w w.heap.size bo b) :
    Calls Try.prog 10 #[.slice ao a.length c, .slice bo b.length d] w (LbEnd (lessL a b) (okR a b) w) := by
  have HC := Lib.hid (byLessI ao bo c d a b hn hm w ha hb)
  clear ha hb
  go_enter Try.func10, Try.ntmps10
  go_wp2_with fail
  refine HC.out.mono ?_
  rintro e w1 h1
  have HE := Lib.hid h1
  obtain ⟨⟨qo, qc, rfl, _⟩, _⟩ := h1
  go_wp2
  go_ret2
  exact HE.out
theorem irow_own {w : World} {base c : Nat} {bo : Option Addr} {l : List Int} (hx : ∀ x ∈ l, In64 x) (h : w.ownsRow base 3 1 (.slice bo l.length c) l.length (l.map (Value.int .i64))) : IRow w w.heap.size bo l := by
  obtain ⟨ao, cap, hv, hr⟩ := IRow.of_own hx h
  injection hv with h1 _ _
  subst h1
  exact hr
theorem row_own {w : World} {base c : Nat} {bo : Option Addr} {l : List Int} (h : w.ownsRow base 3 1 (.slice bo l.length c) l.length (l.map (Value.int .i64))) : Row w bo l.length c (at0 l) base := by
  obtain ⟨ao, cap, hv, hr⟩ := Row.of_own h
  injection hv with h1 _ h3
  subst h1; subst h3
  exact hr
theorem bothL_len {a b : List Int} (hn : a.length ≤ 1048576) (_hm : b.length ≤ 1048576) : (bothL a b).length ≤ 1048576 := by
  unfold bothL; split
  · exact Nat.le_trans (siftR_len ..) hn
  · simp
theorem lessL_len {a b : List Int} (hn : a.length ≤ 1048576) (_hm : b.length ≤ 1048576) : (lessL a b).length ≤ 1048576 := by
  unfold lessL; split
  · exact Nat.le_trans (siftR_len ..) hn
  · simp
theorem bothL_in {a b : List Int} (ha : ∀ x ∈ a, In64 x) (_hb : ∀ x ∈ b, In64 x) : ∀ x ∈ bothL a b, In64 x := by
  unfold bothL; split
  · exact siftR_in ha
  · intro x hx; simp at hx
theorem lessL_in {a b : List Int} (ha : ∀ x ∈ a, In64 x) (_hb : ∀ x ∈ b, In64 x) : ∀ x ∈ lessL a b, In64 x := by
  unfold lessL; split
  · exact siftR_in ha
  · intro x hx; simp at hx
end Go.Proofs.Ytgibjdmjemalcaa
