/- Contract of EitherOf in the program, over this seat's translation: the lists joined and sorted. -/
import Derived.Test.YtgibjdmjemalcaaSo7
namespace Go.Proofs.Ytgibjdmjemalcaa
open Go.RowKit Go.Deep Go.ChangeShapes Go.WideShapes Go.ChangeAt

/-- What the first k of two lists are, joined. -/
def preL (a b : List Int) : Nat → List Int
  | 0 => []
  | 1 => a
  | _ => a ++ b
def PreI (a b : List Int) (w : World) (k : Nat) (v : Value) (wr : World) : Prop := wr.ownsRow w.heap.size 3 1 v (preL a b k).length ((preL a b k).map (Value.int .i64)) ∧ Below w.heap.size w wr
theorem pre_next0 {a b : List Int} {w wr : World} {v : Value} (h : wr.ownsRow w.heap.size 3 1 v ((preL a b 0).length + a.length) ((preL a b 0).map (Value.int .i64) ++ a.map (Value.int .i64))) (hb : Below w.heap.size w wr) : PreI a b w 1 v wr := by
  refine ⟨?_, hb⟩
  show wr.ownsRow w.heap.size 3 1 v a.length (a.map (Value.int .i64))
  have e : (preL a b 0).length + a.length = a.length := by show 0 + a.length = a.length; omega
  rw [e] at h
  exact h
theorem pre_next1 {a b : List Int} {w wr : World} {v : Value} (h : wr.ownsRow w.heap.size 3 1 v ((preL a b 1).length + b.length) ((preL a b 1).map (Value.int .i64) ++ b.map (Value.int .i64))) (hb : Below w.heap.size w wr) : PreI a b w 2 v wr := by
  refine ⟨?_, hb⟩
  show wr.ownsRow w.heap.size 3 1 v (a ++ b).length ((a ++ b).map (Value.int .i64))
  rw [List.length_append, List.map_append]
  exact h

set_option maxHeartbeats 4000000 in
set_option maxRecDepth 100000 in
theorem concatI (h : Nat) (ao bo : Option Addr) (c d : Nat) (a b : List Int) (ha20 : a.length ≤ 20) (hb20 : b.length ≤ 20) (w : World) (hX : Bt w h (.slice ao a.length c) (.slice bo b.length d)) (ha : IRow w w.heap.size ao a) (hb : IRow w w.heap.size bo b) :
    Calls Try.prog 33 #[.slice (some ⟨h, 0, none⟩) 2 2] w (LiEnd (a ++ b) w) := by
  have HA := Lib.hid ha; have HB := Lib.hid hb; have HX := Lib.hid hX
  obtain ⟨i0, hi, hz0, hz1, hz2⟩ := info_parts Try.info3
  have HG := Lib.hid (fun W => growL (a.length + b.length) (by omega) W)
  obtain ⟨x0, x1, _⟩ := hX.cells
  clear ha hb hX
  go_enter Try.func33, Try.ntmps33
  go_wp2
  go_loop [3, 11] (fun s i => (i = .int .i64 0 ∧ s = .int .i64 0) ∨ (i = .int .i64 1 ∧ s = .int .i64 a.length) ∨ (i = .int .i64 2 ∧ s = .int .i64 (a.length + b.length : Nat))) (fun _ i => 2 - (intOf i).toNat)
  case atStart => exact .inl ⟨rfl, rfl⟩
  case round =>
    rcases hrel with ⟨rfl, rfl⟩ | ⟨rfl, rfl⟩ | ⟨rfl, rfl⟩
    · go_wp2
      go_round
      case rel => exact .inr (.inl ⟨rfl, by go_num⟩)
      case measure => simp [intOf]
    · go_wp2
      go_round
      case rel => exact .inr (.inr ⟨rfl, by go_num⟩)
      case measure => simp [intOf]
    · clear x0 x1
      go_wp2_with fail
      refine (HG.out _).mono ?_
      rintro e w1 ⟨v1, rfl, ho1, hb1⟩
      have HO1 := Lib.hid ho1; have HB1 := Lib.hid hb1
      clear ho1 hb1
      have HI0 : Hid (PreI a b w 0 v1 w1) := Lib.hid ⟨HO1.out, HB1.out⟩
      clear HO1
      go_wp2
      go_loopw [6, 27] (fun v i wr => ∃ k : Nat, k ≤ 2 ∧ i = .int .i64 k ∧ Hid (PreI a b w k v wr)) (fun _ i _ => 2 - (intOf i).toNat)
      case atStart => exact ⟨0, by omega, rfl, HI0⟩
      case round =>
      obtain ⟨k, hk, rfl, hI⟩ := hrel
      match k, hk with
      | 0, _ =>
        obtain ⟨ho, hb1⟩ := hI.out
        have HO := Lib.hid ho; have HBr := Lib.hid hb1
        obtain ⟨x0, x1, _⟩ := (HX.out.below hb1).cells
        have HSr := Lib.hid ((HA.out.after hb1).src)
        clear ho hb1 hI
        go_wp2_with (at_builtin; refine wpList_append_src _ rfl _ _ rfl Try.underlying24 hi hz0 hz1 hz2 rfl w.heap.size _ _ _ rfl HO.out ao a.length c (a.map (Value.int .i64)) rfl (by simp) HSr.out (ones_int a) ?p3 ?p4 ?p5 ?_)
        case p3 =>
          have e : (preL a b 0).length = 0 := rfl
          unfold maxLen; omega
        case p4 =>
          have e : (preL a b 0).length = 0 := rfl
          omega
        case p5 => exact HBr.out.size
        intro v' w4 hown' hgrow _
        have HR := Lib.hid (pre_next0 hown' (own_grown HBr.out HO.out hgrow (Nat.le_refl _)))
        clear hown' hgrow
        go_wp2
        go_roundw
        case rel => exact ⟨1, by omega, rfl, HR⟩
        case measure => simp [intOf]
      | 1, _ =>
        obtain ⟨ho, hb1⟩ := hI.out
        have HO := Lib.hid ho; have HBr := Lib.hid hb1
        obtain ⟨x0, x1, _⟩ := (HX.out.below hb1).cells
        have HSr := Lib.hid ((HB.out.after hb1).src)
        clear ho hb1 hI
        go_wp2_with (at_builtin; refine wpList_append_src _ rfl _ _ rfl Try.underlying24 hi hz0 hz1 hz2 rfl w.heap.size _ _ _ rfl HO.out bo b.length d (b.map (Value.int .i64)) rfl (by simp) HSr.out (ones_int b) ?q3 ?q4 ?q5 ?_)
        case q3 =>
          have e : (preL a b 1).length = a.length := rfl
          unfold maxLen; omega
        case q4 =>
          have e : (preL a b 1).length = a.length := rfl
          omega
        case q5 => exact HBr.out.size
        intro v' w4 hown' hgrow _
        have HR := Lib.hid (pre_next1 hown' (own_grown HBr.out HO.out hgrow (Nat.le_refl _)))
        clear hown' hgrow
        go_wp2
        go_roundw
        case rel => exact ⟨2, by omega, rfl, HR⟩
        case measure => simp [intOf]
      | 2, _ =>
        have HE := Lib.hid (li_end hI.out.1 hI.out.2)
        clear hI
        go_wp2
        go_ret
        exact HE.out
set_option maxHeartbeats 4000000 in
set_option maxRecDepth 100000 in
theorem inEitherI (ao bo : Option Addr) (c d : Nat) (a b : List Int) (hga : GoodR a) (hgb : GoodR b) (w : World) (ha : IRow w w.heap.size ao a) (hb : IRow w w.heap.size bo b) :
    Calls Try.prog 20 #[.agg #[.slice ao a.length c, .func (.func 37) #[] #[]], .agg #[.slice bo b.length d, .func (.func 37) #[] #[]]] w (LiEnd (eithR a b) w) := by
  have HB0 := Lib.hid (((Below.refl w.heap.size w).alloc (Nat.le_refl _) (.cells #[.slice ao a.length c, .func (.func 37) #[] #[]] 46)).alloc (by simp) (.cells #[.slice bo b.length d, .func (.func 37) #[] #[]] 46))
  have HX0 := Lib.hid ((Bt.new w (.slice ao a.length c) (.func (.func 37) #[] #[]) 46).alloc (.cells #[.slice bo b.length d, .func (.func 37) #[] #[]] 46))
  have HY0 := Lib.hid (Bt.new (w.alloc (.cells #[.slice ao a.length c, .func (.func 37) #[] #[]] 46)) (.slice bo b.length d) (.func (.func 37) #[] #[]) 46)
  rw [World.size_alloc] at HY0
  have HA := Lib.hid (ha.after HB0.out); have HB := Lib.hid (hb.after HB0.out)
  have HF := Lib.hid (fun W h1 h2 => inFirstI bo ao d c b a hgb.1 hga W h1 h2)
  have hl2 : (siftR b a false).length ≤ 20 := Nat.le_trans (siftR_len ..) hgb.1
  have ha20 := hga.1
  have HCc := Lib.hid (fun h qo qc W hX h1 h2 => concatI h ao qo c qc a (siftR b a false) hga.1 hl2 W hX h1 h2)
  have HIn := Lib.hid (siftR_in (b := a) (h := false) hb.1)
  have HSe := Lib.hid (srt_eith hga.2.2 hgb.2.2)
  unfold LiEnd at HF
  generalize hqq : siftR b a false = q at HF hl2 HCc HIn HSe
  clear hqq ha hb hga hgb
  go_enter Try.func20, Try.ntmps20
  go_wp2_with fail
  obtain ⟨w0, hw0⟩ : ∃ W, W = (w.alloc (.cells #[.slice ao a.length c, .func (.func 37) #[] #[]] 46)).alloc (.cells #[.slice bo b.length d, .func (.func 37) #[] #[]] 46) := ⟨_, rfl⟩
  rw [← hw0] at HB0 HX0 HY0 HA HB ⊢
  clear hw0
  obtain ⟨x0, x1, _⟩ := HX0.out.cells
  obtain ⟨y0, y1, _⟩ := HY0.out.cells
  have hb0 := (Below.refl w0.heap.size w0).drew
  go_region_held3 (fun w' => w'.cell? ⟨w.heap.size, 0, none⟩ = some (.slice ao a.length c) ∧ w'.cell? ⟨w.heap.size, 1, none⟩ = some (.func (.func 37) #[] #[]) ∧ w'.cell? ⟨w.heap.size + 1, 0, none⟩ = some (.slice bo b.length d) ∧ w'.cell? ⟨w.heap.size + 1, 1, none⟩ = some (.func (.func 37) #[] #[])) (first | exact ⟨by assumption, by assumption, by assumption, by assumption⟩ | go_keep) (first | (go_at_call 23; refine (HF.out _ (HB.out.after hb0) (HA.out.after hb0)).mono ?_; rintro e w1 ⟨⟨qo, qc, rfl, ho1⟩, hb1⟩; have hb01 := hb0.trans (hb1.mono hb0.size); obtain ⟨u0, u1, _⟩ := (HX0.out.below hb01).cells; obtain ⟨t0, t1, _⟩ := (HY0.out.below hb01).cells) | (go_at_call 33; refine (HCc.out w1.heap.size qo qc _ (Bt.new w1 _ _ _) ((HA.out.after hb01).after ((Below.refl w1.heap.size w1).alloc (Nat.le_refl _) _)) ((irow_own HIn.out ho1).after ((Below.refl w1.heap.size w1).alloc (Nat.le_refl _) _))).mono ?_; rintro e w2 ⟨⟨po, pc, rfl, ho2⟩, hb2⟩; have hb02 := (hb01.alloc hb01.size (.cells #[.slice ao a.length c, .slice qo q.length qc] 24)).trans (hb2.mono (hb01.alloc hb01.size (.cells #[.slice ao a.length c, .slice qo q.length qc] 24)).size); obtain ⟨s0, s1, _⟩ := (HX0.out.below hb02).cells; obtain ⟨r0, r1, _⟩ := (HY0.out.below hb02).cells))
  have HO2 := Lib.hid (own_lower ho2 (hb01.alloc hb01.size (.cells #[.slice ao a.length c, .slice qo q.length qc] 24)).size); have HB2 := Lib.hid hb02
  have hll : (a ++ q).length ≤ 1048576 := by rw [List.length_append]; omega
  clear ho1 ho2 hb1 hb2 hb01 hb02 hb0 t0 t1 u0 u1 r0 r1 x0 x1 y0 y1
  obtain ⟨l, hl⟩ : ∃ l, l = a ++ q := ⟨_, rfl⟩
  rw [← hl] at HSe HO2 hll
  have hlq : a.length + q.length = l.length := by rw [hl, List.length_append]
  rw [hlq]
  clear hl hlq
  by_cases h0 : l.length = 0
  · obtain rfl : l = [] := List.eq_nil_of_length_eq_zero h0
    have HE : Hid (LiEnd (eithR a b) w (.returned (.slice po ([] : List Int).length pc)) w2) := Lib.hid (by
      have e : srtL [] = [] := List.eq_nil_of_length_eq_zero (srt_len [])
      rw [← HSe.out, e]
      exact li_end (own_lower HO2.out HB0.out.size) (HB0.out.trans (HB2.out.mono HB0.out.size)))
    clear h0
    go_wp2_with fail
    refine (sortNil po pc _).mono ?_
    rintro e w3 ⟨rfl, rfl⟩
    go_wp2
    go_ret
    exact HE.out
  · obtain ⟨g, hv1⟩ : ∃ g, po = some ⟨g, 0, none⟩ := by
      obtain ⟨_, ⟨he, hn⟩ | ⟨g, cap', cur, he, _⟩⟩ := HO2.out
      · exact absurd hn h0
      · injection he with h1 _ _
        exact ⟨g, h1⟩
    subst hv1
    have HSo := Lib.hid (sortL g pc w0.heap.size l hll w2 HO2.out)
    clear h0
    go_wp2_with fail
    refine HSo.out.mono ?_
    rintro e w3 ⟨rfl, ho3, hg3⟩
    have HE : Hid (LiEnd (eithR a b) w (.returned (.slice (some ⟨g, 0, none⟩) l.length pc)) w3) := Lib.hid (by
      have e := srt_len l
      rw [HSe.out] at e ho3
      rw [← e]
      exact li_end (own_lower ho3 HB0.out.size) (HB0.out.trans ((own_grown HB2.out HO2.out hg3 (Nat.le_refl _)).mono HB0.out.size)))
    clear ho3 hg3
    go_wp2
    go_ret
    exact HE.out

set_option maxHeartbeats 2000000 in
set_option maxRecDepth 100000 in
theorem byEitherI (ao bo : Option Addr) (c d : Nat) (a b : List Int) (hn : a.length ≤ 1048576) (hm : b.length ≤ 1048576) (w : World) (ha : IRow w w.heap.size ao a) (hb : IRow w w.heap.size bo b) :
    Calls Try.prog 16 #[.func (.func 20) #[] #[], .slice ao a.length c, .slice bo b.length d] w (LbEnd (eithL a b) (okE a b) w) := by
  have HA := Lib.hid ha; have HB := Lib.hid hb
  have HGa := Lib.hid (fun W hW => goodRefsI ao c a hn W hW)
  have HGb := Lib.hid (fun W hW => goodRefsI bo d b hm W hW)
  have HC := Lib.hid (fun h1 h2 W h3 h4 => inEitherI ao bo c d a b h1 h2 W h3 h4)
  have HRa := Lib.hid (fun W => rrI (.slice ao a.length c) a.length ao c rfl W)
  have HRb := Lib.hid (fun W => rrI (.slice bo b.length d) b.length bo d rfl W)
  clear ha hb
  cases hga : goodR a with
  | false =>
    have hok := okE_no (okR_a (b := b) hga)
    rw [eithL_no hok, hok]
    rw [hga] at HGa
    clear hga hok
    go_enter Try.func16, Try.ntmps16
    go_wp2_with fail
    refine (HGa.out _ HA.out).mono ?_
    rintro e w1 ⟨rfl, hb1⟩
    have HB1 := Lib.hid hb1
    clear hb1
    go_wp2
    go_ret2
    exact lb_none HB1.out
  | true =>
    rw [hga] at HGa
    cases hgb : goodR b with
    | false =>
      have hok := okE_no (okR_b (a := a) hgb)
      rw [eithL_no hok, hok]
      rw [hgb] at HGb
      clear hga hgb hok
      go_enter Try.func16, Try.ntmps16
      go_wp2_with fail
      refine (HGa.out _ HA.out).mono ?_
      rintro e w1 ⟨rfl, hb1⟩
      have HB1 := Lib.hid hb1
      clear hb1
      go_wp2_with fail
      refine (HGb.out _ (HB.out.after HB1.out)).mono ?_
      rintro e w2 ⟨rfl, hb2⟩
      have HB2 := Lib.hid (HB1.out.trans (hb2.mono HB1.out.size))
      clear hb2
      go_wp2
      go_ret2
      exact lb_none HB2.out
    | true =>
      have HOK := Lib.hid (okR_ab hga hgb)
      have HC := Lib.hid (HC.out (goodR_is hga) (goodR_is hgb))
      rw [hgb] at HGb
      clear hga hgb
      have hle : (eithR a b).length ≤ 2097152 := by have := eithR_len b a; omega
      unfold LiEnd at HC
      go_enter Try.func16, Try.ntmps16
      go_wp2_with fail
      refine (HGa.out _ HA.out).mono ?_
      rintro e w1 ⟨rfl, hb1⟩
      have HB1 := Lib.hid hb1
      clear hb1
      go_wp2_with fail
      refine (HGb.out _ (HB.out.after HB1.out)).mono ?_
      rintro e w2 ⟨rfl, hb2⟩
      have HB2 := Lib.hid (HB1.out.trans (hb2.mono HB1.out.size))
      clear hb2
      go_wp2_with fail
      refine (HRa.out _).mono ?_
      rintro e w3 ⟨rfl, hb3⟩
      have HB3 := Lib.hid (HB2.out.trans (hb3.mono HB2.out.size))
      clear hb3
      go_wp2_with fail
      refine (HRb.out _).mono ?_
      rintro e w4 ⟨rfl, hb4⟩
      have HB4 := Lib.hid (HB3.out.trans (hb4.mono HB3.out.size))
      clear hb4
      go_wp2_with fail
      refine (HC.out _ (HA.out.after HB4.out) (HB.out.after HB4.out)).mono ?_
      rintro e w5 ⟨⟨qo, qc, rfl, ho⟩, hb5⟩
      have HO := Lib.hid (own_lower ho HB4.out.size); have HB5 := Lib.hid (HB4.out.trans (hb5.mono HB4.out.size))
      clear ho hb5
      by_cases h20 : (eithR a b).length ≤ 20
      · have hok := okE_yes HOK.out h20
        have HE : Hid (LbEnd (eithL a b) (okE a b) w (.returned (.tuple #[.slice qo (eithR a b).length qc, .bool true])) w5) := Lib.hid (by rw [eithL_yes hok, hok]; exact lb_some HO.out HB5.out)
        clear hok
        generalize (eithR a b).length = q at HE h20 hle ⊢
        go_wp2
        go_ret2
        exact HE.out
      · have hok := okE_big h20
        have HE : Hid (LbEnd (eithL a b) (okE a b) w (.returned (.tuple #[.slice none 0 0, .bool false])) w5) := Lib.hid (by rw [eithL_no hok, hok]; exact lb_none HB5.out)
        clear hok
        generalize (eithR a b).length = q at h20 hle ⊢
        go_wp2
        go_ret2
        exact HE.out

theorem eitherI (ao bo : Option Addr) (c d : Nat) (a b : List Int) (hn : a.length ≤ 1048576) (hm : b.length ≤ 1048576) (w : World) (ha : IRow w w.heap.size ao a) (hb : IRow w w.heap.size bo b) :
    Calls Try.prog 8 #[.slice ao a.length c, .slice bo b.length d] w (LbEnd (eithL a b) (okE a b) w) := by
  have HC := Lib.hid (byEitherI ao bo c d a b hn hm w ha hb)
  clear ha hb
  go_enter Try.func8, Try.ntmps8
  go_wp2_with fail
  refine HC.out.mono ?_
  rintro e w1 h1
  have HE := Lib.hid h1
  obtain ⟨⟨qo, qc, rfl, _⟩, _⟩ := h1
  go_wp2
  go_ret2
  exact HE.out
end Go.Proofs.Ytgibjdmjemalcaa
