/- Contracts of EitherOf in the model: a number put to its place, the union; over this seat's translation. -/
import Derived.Test.YtgibjdmjemalcaaRk
namespace Go.Proofs.Ytgibjdmjemalcaa
open Go.RowKit Go.Deep Go.ChangeShapes Go.WideShapes Go.ChangeAt

theorem mem_take {l : List Int} {k : Nat} {x : Int} (h : x ∈ l.take k) : ∃ t, t < k ∧ t < l.length ∧ at0 l t = x := by
  obtain ⟨t, ht, rfl⟩ := List.getElem_of_mem h
  rw [List.length_take] at ht
  exact ⟨t, by omega, by omega, by rw [at0_get (by omega), List.getElem_take]⟩
theorem mem_drop {l : List Int} {k : Nat} {x : Int} (h : x ∈ l.drop k) : ∃ t, k ≤ t ∧ t < l.length ∧ at0 l t = x := by
  obtain ⟨t, ht, rfl⟩ := List.getElem_of_mem h
  rw [List.length_drop] at ht
  exact ⟨k + t, by omega, by omega, by rw [at0_get (by omega), List.getElem_drop]⟩
theorem filter_all {l : List Int} {p : Int → Bool} (h : ∀ x ∈ l, p x = true) : l.filter p = l := List.filter_eq_self.2 h
theorem filter_none {l : List Int} {p : Int → Bool} (h : ∀ x ∈ l, p x = false) : l.filter p = [] := List.filter_eq_nil_iff.2 (fun x hx e => by rw [h x hx] at e; cases e)
theorem putR_cut {l : List Int} {n : Int} {k : Nat} (h1 : ∀ t, t < k → t < l.length → at0 l t < n) (h2 : ∀ t, k ≤ t → t < l.length → n < at0 l t) : n ∉ l ∧ putR l n = l.take k ++ n :: l.drop k := by
  have hn : n ∉ l := fun hm => by
    rw [← List.take_append_drop k l] at hm
    rcases List.mem_append.1 hm with e | e
    · obtain ⟨t, ht, ht2, e⟩ := mem_take e
      have := h1 t ht ht2; omega
    · obtain ⟨t, ht, ht2, e⟩ := mem_drop e
      have := h2 t ht ht2; omega
  refine ⟨hn, ?_⟩
  have ea : l.filter (fun x => decide (x < n)) = l.take k := by
    conv => lhs; rw [← List.take_append_drop k l]
    rw [List.filter_append, filter_all (fun x hx => by obtain ⟨t, ht, ht2, e⟩ := mem_take hx; have := h1 t ht ht2; simp; omega), filter_none (fun x hx => by obtain ⟨t, ht, ht2, e⟩ := mem_drop hx; have := h2 t ht ht2; simp; omega), List.append_nil]
  have eb : l.filter (fun x => decide (n < x)) = l.drop k := by
    conv => lhs; rw [← List.take_append_drop k l]
    rw [List.filter_append, filter_none (fun x hx => by obtain ⟨t, ht, ht2, e⟩ := mem_take hx; have := h1 t ht ht2; simp; omega), filter_all (fun x hx => by obtain ⟨t, ht, ht2, e⟩ := mem_drop hx; have := h2 t ht ht2; simp; omega), List.nil_append]
  unfold putR; rw [if_neg hn, ea, eb]
theorem IRow.takeR {w : World} {B : Nat} {ao : Option Addr} {l : List Int} (h : IRow w B ao l) (k : Nat) : IRow w B ao (l.take k) :=
  ⟨fun x hx => h.1 x (List.mem_of_mem_take hx), fun hp => by
    rw [List.length_take] at hp
    obtain ⟨b, off, e, hb, hc⟩ := h.2 (by omega)
    exact ⟨b, off, e, hb, fun i hi => by rw [List.length_take] at hi; rw [List.getElem_take]; exact hc i (by omega)⟩⟩
theorem IRow.dropR {w : World} {B b off : Nat} {l : List Int} (h : IRow w B (some ⟨b, off, none⟩) l) (k : Nat) : IRow w B (some ⟨b, off + k, none⟩) (l.drop k) :=
  ⟨fun x hx => h.1 x (List.mem_of_mem_drop hx), fun hp => by
    rw [List.length_drop] at hp
    obtain ⟨b', off', e, hb, hc⟩ := h.2 (by omega)
    injection e with e
    injection e with e1 e2
    subst e1; subst e2
    exact ⟨b, off + k, rfl, hb, fun i hi => by rw [List.length_drop] at hi; rw [List.getElem_drop, Nat.add_assoc]; exact hc (k + i) (by omega)⟩⟩
theorem IRow.none0 {w : World} {B : Nat} (ao : Option Addr) : IRow w B ao [] := ⟨fun x hx => by simp at hx, fun hp => by simp at hp⟩

theorem src_none (w : World) (A : Option Addr) : Src1 w A [] := ⟨fun _ => rfl, fun _ _ j u h => by simp at h⟩
/-- What putting a number answers: the list as it was, or a new one. -/
def PutEnd (ao : Option Addr) (cap : Nat) (l : List Int) (n : Int) (w : World) (e : Ending) (w' : World) : Prop :=
  (n ∈ l ∧ e = .returned (.slice ao l.length cap) ∧ w = w') ∨ (n ∉ l ∧ LiEnd (putR l n) w e w')

/-- What is still to be done when the place is known: three pieces appended. -/
theorem put_tail (ao : Option Addr) (cap : Nat) (l : List Int) (n : Int) (k : Nat) (w : World) (h : n ∉ l ∧ putR l n = l.take k ++ n :: l.drop k) {w' : World} {v : Value}
    (ho : w'.ownsRow w.heap.size 3 1 v ((l.take k).length + 1 + (l.drop k).length) ((l.take k).map (Value.int .i64) ++ Value.int .i64 n :: (l.drop k).map (Value.int .i64))) (hb : Below w.heap.size w w') : PutEnd ao cap l n w (.returned v) w' := by
  refine .inr ⟨h.1, ?_⟩
  rw [h.2]
  refine li_end ?_ hb
  have e1 : (l.take k ++ n :: l.drop k).length = (l.take k).length + 1 + (l.drop k).length := by simp; omega
  have e2 : (l.take k ++ n :: l.drop k).map (Value.int .i64) = (l.take k).map (Value.int .i64) ++ Value.int .i64 n :: (l.drop k).map (Value.int .i64) := by simp
  rw [e1, e2]
  exact ho

set_option maxHeartbeats 4000000 in
set_option maxRecDepth 100000 in
theorem putM (ao : Option Addr) (cap : Nat) (l : List Int) (n : Int) (h60 : l.length ≤ 60) (hup : upR l) (hcap : l.length ≤ cap) (hnil : ao = none → cap = 0) (hform : ∀ ad, ao = some ad → ∃ b off, ad = ⟨b, off, none⟩) (w : World) (h : IRow w w.heap.size ao l) :
    Calls Try.prog 22 #[.slice ao l.length cap, .int .i64 n] w (PutEnd ao cap l n w) := by
  obtain ⟨i0, hi, hz0, hz1, hz2⟩ := info_parts Try.info3
  have H := Lib.hid h; have HU := Lib.hid hup
  have HO0 : Hid ((w.alloc (.cells #[] 3)).ownsRow w.heap.size 3 1 (.slice (some ⟨w.heap.size, 0, none⟩) 0 0) 0 []) := Lib.hid (own_empty0 (blk_alloc_new w _) (Nat.le_refl _))
  have hb0 := (Below.refl w.heap.size w).alloc (Nat.le_refl _) (.cells #[] 3)
  have HB0 := Lib.hid hb0
  clear h hup hb0
  go_enter Try.func22, Try.ntmps22
  go_wp2
  go_loop [5] (fun i => ∃ k : Nat, k ≤ l.length ∧ i = .int .i64 k ∧ Hid (∀ t, t < k → at0 l t < n)) (fun i => l.length - (intOf i).toNat)
  case atStart => exact ⟨0, Nat.zero_le _, rfl, Lib.hid (fun t ht => by omega)⟩
  case round =>
    obtain ⟨k, hk, rfl, hI⟩ := hrel
    by_cases hlt : k < l.length
    case pos =>
      obtain ⟨b, off, hao, hbl, hc⟩ := H.out.2 (by omega)
      subst hao
      have c1 := hc k hlt
      rw [← at0_get hlt] at c1
      clear hc
      by_cases hx : at0 l k < n
      · have HI : Hid (∀ t, t < k + 1 → at0 l t < n) := Lib.hid (fun t ht => by
          by_cases e : t = k
          · subst e; exact hx
          · exact hI.out t (by omega))
        generalize at0 l k = y at c1 hx
        go_wp2
        go_round
        case rel => exact ⟨k + 1, by omega, by go_num, HI⟩
        case measure => simp [intOf]; omega
      by_cases he : at0 l k = n
      · have HE : Hid (PutEnd (some ⟨b, off, none⟩) cap l n w (.returned (.slice (some ⟨b, off, none⟩) l.length cap)) w) := Lib.hid (.inl ⟨he ▸ at0_mem hlt, rfl, rfl⟩)
        rw [he] at c1
        clear hx he
        have hnn : ¬ n < n := by omega
        go_wp2
        go_ret
        exact HE.out
      have HC := Lib.hid (putR_cut (l := l) (n := n) (k := k) (fun t ht _ => hI.out t ht) (fun t h1 h2 => by
        by_cases e : t = k
        · subst e; omega
        · have := upR_lt HU.out (i := k) (j := t) (by omega) h2
          omega))
      have HT := Lib.hid (fun w' v ho hb => put_tail (some ⟨b, off, none⟩) cap l n k w HC.out (w' := w') (v := v) ho hb)
      have hne : (at0 l k == n) = false := beq_eq_false_iff_ne.2 he
      have HRt := Lib.hid (H.out.takeR k)
      have HRd := Lib.hid (H.out.dropR k)
      have htl : (l.take k).length = k := by rw [List.length_take]; omega
      have hdl : (l.drop k).length = l.length - k := by rw [List.length_drop]
      have HTl := Lib.hid htl; have HDl := Lib.hid hdl
      have hck : ¬ cap = k := by omega
      generalize l.take k = lt at HT HRt HTl htl
      generalize l.drop k = ld at HT HRd HDl hdl
      subst htl
      have hld : ld.length ≤ 60 := by omega
      clear he hI HC hdl HTl
      generalize at0 l lt.length = y at c1 hx hne
      go_wp2_with (at_builtin; refine wpList_append_src _ rfl (.tmp 34) (.tmp 37) rfl Try.underlying24 hi hz0 hz1 hz2 rfl w.heap.size _ _ _ rfl HO0.out (some ⟨b, off, none⟩) lt.length cap (lt.map (Value.int .i64)) rfl (by simp) (HRt.out.after HB0.out).src (ones_int lt) ?c3 ?c4 ?c5 ?_)
      case c3 => unfold maxLen; omega
      case c4 => omega
      intro v1 w1 hown1 hgrow1 _
      have HB1 := Lib.hid (own_grown HB0.out HO0.out hgrow1 (Nat.le_refl _))
      try simp only [Nat.zero_add, List.nil_append] at hown1
      have HO1 := Lib.hid hown1
      clear hown1 hgrow1
      go_wp2_with (at_builtin; refine wpList_append_own _ rfl (.tmp 39) (.tmp 41) 24 rfl w.heap.size 3 i0 (.int .i64 0) 1 8 Try.underlying24 hi hz0 hz1 hz2 rfl (by decide) _ _ _ rfl (HO1.out.alloc _) ⟨w1.heap.size, 0, none⟩ 1 1 [.int .i64 n] rfl rfl new_cell ?d2 ?d3 ?d4 ?d5 ?_)
      case d2 => intro u hu; simp at hu; subst hu; rfl
      case d3 => unfold maxLen; omega
      case d4 => omega
      case d5 => have h1 := HB1.out.size; simp; omega
      intro v2 w2 hown2 hgrow2 _
      have HB2 := Lib.hid (own_grown (HB1.out.alloc HB1.out.size _) (HO1.out.alloc _) hgrow2 (Nat.le_refl _))
      have HO2 := Lib.hid hown2
      clear hown2 hgrow2
      go_wp2_with (at_builtin; refine wpList_append_src _ rfl (.tmp 43) (.tmp 46) rfl Try.underlying24 hi hz0 hz1 hz2 rfl w.heap.size _ _ _ rfl HO2.out (some ⟨b, off + lt.length, none⟩) ld.length (cap - lt.length) (ld.map (Value.int .i64)) (by rw [HDl.out]; rfl) (by simp) (HRd.out.after HB2.out).src (ones_int ld) ?e3 ?e4 ?e5 ?_)
      case e3 => unfold maxLen; omega
      case e4 => omega
      case e5 => exact HB2.out.size
      intro v3 w3 hown3 hgrow3 _
      have HE := Lib.hid (HT.out _ _ hown3 (own_grown HB2.out HO2.out hgrow3 (Nat.le_refl _)))
      clear hown3 hgrow3
      go_wp2
      go_ret
      exact HE.out
    case neg =>
      obtain rfl : k = l.length := by omega
      have HC := Lib.hid (putR_cut (l := l) (n := n) (k := l.length) (fun t ht _ => hI.out t ht) (fun t h1 h2 => by omega))
      have HT := Lib.hid (fun w' v ho hb => put_tail ao cap l n l.length w HC.out (w' := w') (v := v) ho hb)
      rw [List.take_length, List.drop_length] at HT
      clear hI HC
      have hll : decide ((l.length : Int) < (l.length : Int)) = false := by simp
      cases ao with
      | none =>
        have h0 := hnil rfl
        subst h0
        obtain rfl : l = [] := List.eq_nil_of_length_eq_zero (by omega)
        go_wp2_with (at_builtin; refine wpList_append_src _ rfl (.tmp 34) (.tmp 37) rfl Try.underlying24 hi hz0 hz1 hz2 rfl w.heap.size _ _ _ rfl HO0.out none 0 0 [] rfl rfl (H.out.after HB0.out).src (ones_int []) ?c3p ?c4p ?c5p ?_)
        intro v1 w1 hown1 hgrow1 _
        have HB1 := Lib.hid (own_grown HB0.out HO0.out hgrow1 (Nat.le_refl _))
        try simp only [Nat.zero_add, List.nil_append] at hown1
        have HO1 := Lib.hid hown1
        clear hown1 hgrow1
        go_wp2_with (at_builtin; refine wpList_append_own _ rfl (.tmp 39) (.tmp 41) 24 rfl w.heap.size 3 i0 (.int .i64 0) 1 8 Try.underlying24 hi hz0 hz1 hz2 rfl (by decide) _ _ _ rfl (HO1.out.alloc _) ⟨w1.heap.size, 0, none⟩ 1 1 [.int .i64 n] rfl rfl new_cell ?d2p ?d3p ?d4p ?d5p ?_)
        case d2p => intro u hu; simp at hu; subst hu; rfl
        case d3p => unfold maxLen; omega
        case d4p => omega
        case d5p => have h1 := HB1.out.size; simp; omega
        intro v2 w2 hown2 hgrow2 _
        have HB2 := Lib.hid (own_grown (HB1.out.alloc HB1.out.size _) (HO1.out.alloc _) hgrow2 (Nat.le_refl _))
        have HO2 := Lib.hid hown2
        clear hown2 hgrow2
        go_wp2_with (at_builtin; refine wpList_append_src _ rfl (.tmp 43) (.tmp 46) rfl Try.underlying24 hi hz0 hz1 hz2 rfl w.heap.size _ _ _ rfl HO2.out _ 0 _ [] rfl rfl (src_none _ _) (ones_int []) ?e3p ?e4p ?e5p ?_)
        case e3p => unfold maxLen; omega
        case e4p => omega
        case e5p => exact HB2.out.size
        intro v3 w3 hown3 hgrow3 _
        have HE := Lib.hid (HT.out _ _ (by simpa using hown3) (own_grown HB2.out HO2.out hgrow3 (Nat.le_refl _)))
        clear hown3 hgrow3
        go_wp2
        go_ret
        exact HE.out
      | some ad =>
        obtain ⟨b, off, rfl⟩ := hform ad rfl
        clear hform hnil
        by_cases hck : cap = l.length
        · subst hck
          go_wp2_with (at_builtin; refine wpList_append_src _ rfl (.tmp 34) (.tmp 37) rfl Try.underlying24 hi hz0 hz1 hz2 rfl w.heap.size _ _ _ rfl HO0.out (some ⟨b, off, none⟩) l.length l.length (l.map (Value.int .i64)) rfl (by simp) (H.out.after HB0.out).src (ones_int l) ?c3r ?c4r ?c5r ?_)
          case c3r => unfold maxLen; omega
          case c4r => omega
          intro v1 w1 hown1 hgrow1 _
          have HB1 := Lib.hid (own_grown HB0.out HO0.out hgrow1 (Nat.le_refl _))
          try simp only [Nat.zero_add, List.nil_append] at hown1
          have HO1 := Lib.hid hown1
          clear hown1 hgrow1
          go_wp2_with (at_builtin; refine wpList_append_own _ rfl (.tmp 39) (.tmp 41) 24 rfl w.heap.size 3 i0 (.int .i64 0) 1 8 Try.underlying24 hi hz0 hz1 hz2 rfl (by decide) _ _ _ rfl (HO1.out.alloc _) ⟨w1.heap.size, 0, none⟩ 1 1 [.int .i64 n] rfl rfl new_cell ?d2r ?d3r ?d4r ?d5r ?_)
          case d2r => intro u hu; simp at hu; subst hu; rfl
          case d3r => unfold maxLen; omega
          case d4r => omega
          case d5r => have h1 := HB1.out.size; simp; omega
          intro v2 w2 hown2 hgrow2 _
          have HB2 := Lib.hid (own_grown (HB1.out.alloc HB1.out.size _) (HO1.out.alloc _) hgrow2 (Nat.le_refl _))
          have HO2 := Lib.hid hown2
          clear hown2 hgrow2
          go_wp2_with (at_builtin; refine wpList_append_src _ rfl (.tmp 43) (.tmp 46) rfl Try.underlying24 hi hz0 hz1 hz2 rfl w.heap.size _ _ _ rfl HO2.out _ 0 _ [] rfl rfl (src_none _ _) (ones_int []) ?e3r ?e4r ?e5r ?_)
          case e3r => unfold maxLen; omega
          case e4r => omega
          case e5r => exact HB2.out.size
          intro v3 w3 hown3 hgrow3 _
          have HE := Lib.hid (HT.out _ _ (by simpa using hown3) (own_grown HB2.out HO2.out hgrow3 (Nat.le_refl _)))
          clear hown3 hgrow3
          go_wp2
          go_ret
          exact HE.out
        · go_wp2_with (at_builtin; refine wpList_append_src _ rfl (.tmp 34) (.tmp 37) rfl Try.underlying24 hi hz0 hz1 hz2 rfl w.heap.size _ _ _ rfl HO0.out (some ⟨b, off, none⟩) l.length cap (l.map (Value.int .i64)) rfl (by simp) (H.out.after HB0.out).src (ones_int l) ?c3s ?c4s ?c5s ?_)
          case c3s => unfold maxLen; omega
          case c4s => omega
          intro v1 w1 hown1 hgrow1 _
          have HB1 := Lib.hid (own_grown HB0.out HO0.out hgrow1 (Nat.le_refl _))
          try simp only [Nat.zero_add, List.nil_append] at hown1
          have HO1 := Lib.hid hown1
          clear hown1 hgrow1
          go_wp2_with (at_builtin; refine wpList_append_own _ rfl (.tmp 39) (.tmp 41) 24 rfl w.heap.size 3 i0 (.int .i64 0) 1 8 Try.underlying24 hi hz0 hz1 hz2 rfl (by decide) _ _ _ rfl (HO1.out.alloc _) ⟨w1.heap.size, 0, none⟩ 1 1 [.int .i64 n] rfl rfl new_cell ?d2s ?d3s ?d4s ?d5s ?_)
          case d2s => intro u hu; simp at hu; subst hu; rfl
          case d3s => unfold maxLen; omega
          case d4s => omega
          case d5s => have h1 := HB1.out.size; simp; omega
          intro v2 w2 hown2 hgrow2 _
          have HB2 := Lib.hid (own_grown (HB1.out.alloc HB1.out.size _) (HO1.out.alloc _) hgrow2 (Nat.le_refl _))
          have HO2 := Lib.hid hown2
          clear hown2 hgrow2
          go_wp2_with (at_builtin; refine wpList_append_src _ rfl (.tmp 43) (.tmp 46) rfl Try.underlying24 hi hz0 hz1 hz2 rfl w.heap.size _ _ _ rfl HO2.out _ 0 _ [] rfl rfl (src_none _ _) (ones_int []) ?e3s ?e4s ?e5s ?_)
          case e3s => unfold maxLen; omega
          case e4s => omega
          case e5s => exact HB2.out.size
          intro v3 w3 hown3 hgrow3 _
          have HE := Lib.hid (HT.out _ _ (by simpa using hown3) (own_grown HB2.out HO2.out hgrow3 (Nat.le_refl _)))
          clear hown3 hgrow3
          go_wp2
          go_ret
          exact HE.out
end Go.Proofs.Ytgibjdmjemalcaa
