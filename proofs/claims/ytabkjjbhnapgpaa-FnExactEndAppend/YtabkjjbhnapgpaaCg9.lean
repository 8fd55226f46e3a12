/- Contracts of slices.Grow at the nil list, slices.Concat of two lists, slices.Clone, over this seat's translation. -/
import Derived.Test.YtabkjjbhnapgpaaMo
import Derived.Test.YtabkjjbhnapgpaaShelf
namespace Go.Proofs.Ytabkjjbhnapgpaa
open Go.RowKit Go.Deep Go.ChangeShapes Go.WideShapes Go.ChangeAt

/-- What Grow answers at the nil list: an empty list with room. -/
theorem growL (n : Nat) (hn : n ≤ 1048576) (w : World) :
    Calls Try.prog 77 #[.slice none 0 0, .int .i64 n] w fun e w' => ∃ v, e = .returned v ∧ w'.ownsRow w.heap.size 3 1 v 0 [] ∧ Below w.heap.size w w' := by
  by_cases h0 : n = 0
  · subst h0
    refine (Any8.slices_Grow_room Try.growI none 0 0 0 w (by omega) (by omega) (by omega) (by omega)).mono ?_
    rintro e w' ⟨rfl, rfl⟩
    exact ⟨_, rfl, World.ownsRow_nil _ _ _ _, Below.refl _ _⟩
  · obtain ⟨i0, hi, hz0, hz1, hz2⟩ := info_parts Try.info3
    refine (Any8.slices_Grow_grow Try.growI i0 (.int .i64 0) hi hz0 (by omega) none 0 0 n [] w (by omega) (by omega) (by rw [hz2]; omega) (by omega) (by simp) (fun _ => rfl) (fun a e => by cases e)).mono ?_
    rintro e w' ⟨rfl, rfl⟩
    refine ⟨_, rfl, ⟨by simp, .inr ⟨w.heap.size, _, _, rfl, Nat.le_refl _, blk_alloc_new w.drew _, Nat.zero_le _, grownCap_le_maxLen w (0 + n) 0 _ (by unfold maxLen; omega), ?_, by simp⟩⟩, ?_⟩
    · have hge := grownCap_ge w (0 + n) 0 3
      simp only [Array.size_append, List.size_toArray, size_zeroCells]
      show 0 + (0 + n - 0) * 1 + (grownCap w (0 + n) 0 3 - (0 + n)) * 1 = grownCap w (0 + n) 0 3 * 1
      omega
    · exact ((Below.refl _ _).drew).alloc (Nat.le_refl _) _

/-- What the first k of two lists are, joined. -/
def preL (a b : List Int) : Nat → List Int
  | 0 => []
  | 1 => a
  | _ => a ++ b
def PreI (a b : List Int) (w : World) (k : Nat) (v : Value) (wr : World) : Prop := wr.ownsRow w.heap.size 3 1 v (preL a b k).length ((preL a b k).map (Value.int .i64)) ∧ Below w.heap.size w wr
theorem pre_next0 {a b : List Int} {w wr : World} {v : Value} (h : wr.ownsRow w.heap.size 3 1 v ((preL a b 0).length + a.length) ((preL a b 0).map (Value.int .i64) ++ a.map (Value.int .i64))) (hb : Below w.heap.size w wr) : PreI a b w 1 v wr := by
  refine ⟨?_, hb⟩
  show wr.ownsRow w.heap.size 3 1 v a.length (a.map (Value.int .i64))
  have e : (preL a b 0).length + a.length = a.length := by show 0 + a.length = a.length; omega
  rw [e] at h
  exact h
theorem pre_next1 {a b : List Int} {w wr : World} {v : Value} (h : wr.ownsRow w.heap.size 3 1 v ((preL a b 1).length + b.length) ((preL a b 1).map (Value.int .i64) ++ b.map (Value.int .i64))) (hb : Below w.heap.size w wr) : PreI a b w 2 v wr := by
  refine ⟨?_, hb⟩
  show wr.ownsRow w.heap.size 3 1 v (a ++ b).length ((a ++ b).map (Value.int .i64))
  rw [List.length_append, List.map_append]
  exact h

set_option maxHeartbeats 4000000 in
set_option maxRecDepth 100000 in
theorem concatI (h : Nat) (ao bo : Option Addr) (c d : Nat) (a b : List Int) (ha20 : a.length ≤ 1000) (hb20 : b.length ≤ 1000) (w : World) (hX : Bt w h (.slice ao a.length c) (.slice bo b.length d)) (ha : IRow w w.heap.size ao a) (hb : IRow w w.heap.size bo b) :
    Calls Try.prog 46 #[.slice (some ⟨h, 0, none⟩) 2 2] w (LiEnd (a ++ b) w) := by
  have HA := Lib.hid ha; have HB := Lib.hid hb; have HX := Lib.hid hX
  obtain ⟨i0, hi, hz0, hz1, hz2⟩ := info_parts Try.info3
  have HG := Lib.hid (fun W => growL (a.length + b.length) (by omega) W)
  obtain ⟨x0, x1, _⟩ := hX.cells
  clear ha hb hX
  go_enter Try.func46, Try.ntmps46
  go_wp2
  go_loop [3, 11] (fun s i => (i = .int .i64 0 ∧ s = .int .i64 0) ∨ (i = .int .i64 1 ∧ s = .int .i64 a.length) ∨ (i = .int .i64 2 ∧ s = .int .i64 (a.length + b.length : Nat))) (fun _ i => 2 - (intOf i).toNat)
  case atStart => exact .inl ⟨rfl, rfl⟩
  case round =>
    rcases hrel with ⟨rfl, rfl⟩ | ⟨rfl, rfl⟩ | ⟨rfl, rfl⟩
    · go_wp2
      go_round
      case rel => exact .inr (.inl ⟨rfl, by go_num⟩)
      case measure => simp [intOf]
    · go_wp2
      go_round
      case rel => exact .inr (.inr ⟨rfl, by go_num⟩)
      case measure => simp [intOf]
    · clear x0 x1
      go_wp2_with fail
      refine (HG.out _).mono ?_
      rintro e w1 ⟨v1, rfl, ho1, hb1⟩
      have HO1 := Lib.hid ho1; have HB1 := Lib.hid hb1
      clear ho1 hb1
      have HI0 : Hid (PreI a b w 0 v1 w1) := Lib.hid ⟨HO1.out, HB1.out⟩
      clear HO1
      go_wp2
      go_loopw [6, 27] (fun v i wr => ∃ k : Nat, k ≤ 2 ∧ i = .int .i64 k ∧ Hid (PreI a b w k v wr)) (fun _ i _ => 2 - (intOf i).toNat)
      case atStart => exact ⟨0, by omega, rfl, HI0⟩
      case round =>
      obtain ⟨k, hk, rfl, hI⟩ := hrel
      match k, hk with
      | 0, _ =>
        obtain ⟨ho, hb1⟩ := hI.out
        have HO := Lib.hid ho; have HBr := Lib.hid hb1
        obtain ⟨x0, x1, _⟩ := (HX.out.below hb1).cells
        have HSr := Lib.hid ((HA.out.below hb1.size hb1).src)
        clear ho hb1 hI
        go_wp2_with (at_builtin; refine wpList_append_more _ rfl _ _ rfl Try.underlying22 hi hz0 hz1 hz2 rfl (by decide) w.heap.size _ _ _ rfl HO.out ao a.length c (a.map (Value.int .i64)) rfl HSr.out (ones_int a) ?p3 ?p4 ?p5 ?_)
        case p3 =>
          have e : (preL a b 0).length = 0 := rfl
          unfold maxLen; omega
        case p4 =>
          have e : (preL a b 0).length = 0 := rfl
          omega
        case p5 => exact HBr.out.size
        intro v' w4 hown' hgrow _
        have HR := Lib.hid (pre_next0 hown' (own_grown HBr.out HO.out hgrow (Nat.le_refl _)))
        clear hown' hgrow
        go_wp2
        go_roundw
        case rel => exact ⟨1, by omega, rfl, HR⟩
        case measure => simp [intOf]
      | 1, _ =>
        obtain ⟨ho, hb1⟩ := hI.out
        have HO := Lib.hid ho; have HBr := Lib.hid hb1
        obtain ⟨x0, x1, _⟩ := (HX.out.below hb1).cells
        have HSr := Lib.hid ((HB.out.below hb1.size hb1).src)
        clear ho hb1 hI
        go_wp2_with (at_builtin; refine wpList_append_more _ rfl _ _ rfl Try.underlying22 hi hz0 hz1 hz2 rfl (by decide) w.heap.size _ _ _ rfl HO.out bo b.length d (b.map (Value.int .i64)) rfl HSr.out (ones_int b) ?q3 ?q4 ?q5 ?_)
        case q3 =>
          have e : (preL a b 1).length = a.length := rfl
          unfold maxLen; omega
        case q4 =>
          have e : (preL a b 1).length = a.length := rfl
          omega
        case q5 => exact HBr.out.size
        intro v' w4 hown' hgrow _
        have HR := Lib.hid (pre_next1 hown' (own_grown HBr.out HO.out hgrow (Nat.le_refl _)))
        clear hown' hgrow
        go_wp2
        go_roundw
        case rel => exact ⟨2, by omega, rfl, HR⟩
        case measure => simp [intOf]
      | 2, _ =>
        have HE := Lib.hid (li_end hI.out.1 hI.out.2)
        clear hI
        go_wp2
        go_ret
        exact HE.out
set_option maxHeartbeats 2000000 in
set_option maxRecDepth 100000 in
theorem cloneI (ao : Option Addr) (cap : Nat) (l : List Int) (hn : l.length ≤ 1048576) (w : World) (h : IRow w w.heap.size ao l) :
    Calls Try.prog 78 #[.slice ao l.length cap] w (LiEnd l w) := by
  obtain ⟨i0, hi, hz0, hz1, hz2⟩ := info_parts Try.info3
  have q22 : ∀ (w : World) (a : Option Addr) (n c n' c' : Nat), (binOp .eql 22 (.slice a n c) (.slice none n' c')).run Try.prog w = .ok (.bool a.isNone) w := fun w a n c n' c' => Lib.run_eql_slice_nil w _ _ a n c n' c' Try.underlying22
  cases ao with
  | none =>
    have hl : l = [] := by
      by_cases hp : 0 < l.length
      · obtain ⟨b, off, e, _⟩ := h.2 hp
        cases e
      · exact List.eq_nil_of_length_eq_zero (by omega)
    subst hl
    clear h
    go_enter Try.func78, Try.ntmps78
    go_wp2
    go_ret
    exact ⟨⟨none, 0, rfl, World.ownsRow_nil _ _ _ _⟩, Below.refl _ _⟩
  | some ad =>
    have HO : Hid ((w.alloc (.cells #[] 3)).ownsRow w.heap.size 3 1 (.slice (some ⟨w.heap.size, 0, none⟩) 0 0) 0 []) := Lib.hid (own_empty0 (blk_alloc_new w _) (Nat.le_refl _))
    have hb0 := (Below.refl w.heap.size w).alloc (Nat.le_refl _) (.cells #[] 3)
    have HB0 := Lib.hid hb0
    have HSr := Lib.hid (h.below hb0.size hb0).src
    clear h hb0
    go_enter Try.func78, Try.ntmps78
    go_wp2_with (at_builtin; refine wpList_append_more _ rfl _ _ rfl Try.underlying22 hi hz0 hz1 hz2 rfl (by decide) w.heap.size _ _ _ rfl HO.out (some ad) l.length cap (l.map (Value.int .i64)) rfl HSr.out (ones_int l) ?c3 ?c4 ?c5 ?_)
    case c3 => unfold maxLen; omega
    case c4 => omega
    case c5 => exact HB0.out.size
    intro v' w4 hown' hgrow _
    try simp only [Nat.zero_add, List.nil_append] at hown'
    have HE := Lib.hid (li_end hown' (own_grown HB0.out HO.out hgrow (Nat.le_refl _)))
    clear hown' hgrow
    go_wp2
    go_ret
    exact HE.out
end Go.Proofs.Ytabkjjbhnapgpaa
