/- Contracts of the program's sorting of labels, over this seat's translation: a name twice, those with an Is, the copy, the sort, and all of it. -/
import Derived.Test.YtoelcbfbpijfcaaDoorSorti
import Derived.Test.YtoelcbfbpijfcaaDoorCmp
import Derived.Test.YtoelcbfbpijfcaaDoorShelf
namespace Go.Proofs.YtoelcbfbpijfcaaDoor
open Go.RowKit Go.Deep

def adjTo (S : List Lab) (k : Nat) : Prop := ∀ i (h : i + 1 < S.length), i < k → S[i].1.data.toList ≠ S[i + 1].1.data.toList
theorem adjTo_succ {S : List Lab} {k : Nat} (h : adjTo S k) (hne : ∀ (h : k + 1 < S.length), S[k].1.data.toList ≠ S[k + 1].1.data.toList) : adjTo S (k + 1) := fun i hi hik => by
  by_cases e : i = k
  · subst e; exact hne hi
  · exact h i hi (by omega)

set_option maxHeartbeats 2000000 in
set_option maxRecDepth 100000 in
theorem twice60 (ao : Option Addr) (cap : Nat) (S : List Lab) (hn : S.length ≤ 1048576) (hS : ∀ i j (hi : i < S.length) (hj : j < S.length), i < j → less S[j].1 S[i].1 = false) (w : World) (h : LRow w w.heap.size ao S) :
    Calls Tryd.prog 60 #[.slice ao S.length cap] w fun e w' => e = .returned (.bool (!decide (names S).Nodup)) ∧ Below w.heap.size w w' := by
  have H := Lib.hid h
  have HSo := Lib.hid hS
  clear h hS
  go_enter Tryd.func60, Tryd.ntmps60
  go_wp2
  go_loopw [3] (fun i wr => ∃ k : Nat, k ≤ S.length ∧ i = .int .i64 ((k : Int) + 1) ∧ Hid (adjTo S k) ∧ Hid (Below w.heap.size w wr)) (fun i _ => S.length + 1 - (intOf i).toNat)
  case atStart => exact ⟨0, Nat.zero_le _, rfl, fun _ _ h => absurd h (by omega), Below.refl _ _⟩
  case round =>
    obtain ⟨k, hk, rfl, hA, hb⟩ := hrel
    by_cases hlt : k + 1 < S.length
    · obtain ⟨b, off, hao, hbl, hc⟩ := H.out (by omega)
      subst hao
      have c0 := (hb.out.cell (p := ⟨b, off + k * 2, none⟩) hbl).trans (hc k (by omega)).1
      have d0 := (hb.out.cell (p := ⟨b, off + (k + 1) * 2, none⟩) hbl).trans (hc (k + 1) hlt).1
      have HNe := Lib.hid (fun (h : S[k].1.data.toList ≠ S[k + 1].1.data.toList) => adjTo_succ hA.out (fun _ => h))
      have HEq := Lib.hid (fun (h : S[k].1.data.toList = S[k + 1].1.data.toList) => adj_not_nodup hlt h)
      have hwr : IntKind.i64.wrap ((k : Int) + 1 - 1) = k := by rw [show (k : Int) + 1 - 1 = k by omega]; exact IntWalk.i64_in _ (by omega)
      have hlt' : (k : Int) + 1 < S.length := by omega
      have htn : ((k : Int) + 1).toNat = k + 1 := by omega
      clear hc
      generalize S[k] = x at c0 HNe HEq
      generalize S[k + 1] = y at d0 HNe HEq
      obtain ⟨x1, x2⟩ := x
      obtain ⟨y1, y2⟩ := y
      dsimp only at c0 d0 HNe HEq
      by_cases he : (x1.toList == y1.toList) = true
      · have HE := Lib.hid (HEq.out (by simpa [Lib.toList_data] using he))
        go_wp2_with fail
        go_quiet (fail)
        go_wp2
        go_ret
        exact ⟨ret_bool (by simp [HE.out]), below_drewN hb.out _⟩
      · have he : (x1.toList == y1.toList) = false := by simpa using he
        have HE := Lib.hid (HNe.out (by simpa [Lib.toList_data] using he))
        go_wp2_with fail
        go_quiet (fail)
        go_wp2
        go_roundw
        case rel => exact ⟨k + 1, by omega, by go_num, HE, below_drewN hb.out _⟩
        case measure => simp [intOf]; omega
    · have HN := Lib.hid (strict_nodup (strict_of_adj HSo.out (fun i h => hA.out i h (by omega))))
      have hge : (S.length : Int) ≤ (k : Int) + 1 := by omega
      go_wp2
      go_ret
      exact ⟨ret_bool (by simp [HN.out]), hb.out⟩

theorem filter_keep {l : List Lab} {k : Nat} (hk : k < l.length) (h : hasIs l[k] = true) : (l.take (k + 1)).filter hasIs = (l.take k).filter hasIs ++ [l[k]] := by
  rw [List.take_succ_eq_append_getElem hk, List.filter_append]; simp [h]
theorem filter_drop {l : List Lab} {k : Nat} (hk : k < l.length) (h : hasIs l[k] = false) : (l.take (k + 1)).filter hasIs = (l.take k).filter hasIs := by
  rw [List.take_succ_eq_append_getElem hk, List.filter_append]; simp [h]

set_option maxHeartbeats 2000000 in
set_option maxRecDepth 100000 in
theorem withIs61 (ao : Option Addr) (cap : Nat) (l : List Lab) (hn : l.length ≤ 1048576) (w : World) (h : LRow w w.heap.size ao l) :
    Calls Tryd.prog 61 #[.slice ao l.length cap] w fun e w' => ∃ v, e = .returned v ∧ w'.ownsRow w.heap.size 31 2 v (l.filter hasIs).length (cellsOf (l.filter hasIs)) ∧ Below w.heap.size w w' := by
  have H := Lib.hid h
  clear h
  obtain ⟨i0, hi0, hz0, hz1, hz2⟩ := info_parts Tryd.info31
  go_enter Tryd.func61, Tryd.ntmps61
  go_wp2
  go_loopw [3, 8] (fun v i wr => ∃ k : Nat, k ≤ l.length ∧ i = .int .i64 k ∧ Hid (wr.ownsRow w.heap.size 31 2 v ((l.take k).filter hasIs).length (cellsOf ((l.take k).filter hasIs))) ∧ Hid (Below w.heap.size w wr)) (fun _ i _ => l.length - (intOf i).toNat)
  case atStart => exact ⟨0, Nat.zero_le _, rfl, World.ownsRow_nil _ _ _ _, Below.refl _ _⟩
  case round =>
    obtain ⟨k, hk, rfl, hO, hb⟩ := hrel
    by_cases hlt : k < l.length
    · obtain ⟨b, off, hao, hbl, hc⟩ := H.out (by omega)
      subst hao
      have c0 := (hb.out.cell (p := ⟨b, off + k * 2, none⟩) hbl).trans (hc k hlt).1
      have c1 := (hb.out.cell (p := ⟨b, off + k * 2 + 1, none⟩) hbl).trans (hc k hlt).2
      have HB1 := Lib.hid (hb.out.alloc (hb.out.size) (.cells #[.string l[k].1, .string l[k].2] 31))
      have HO1 := Lib.hid (hO.out.alloc (.cells #[.string l[k].1, .string l[k].2] 31))
      have HKe := Lib.hid (fun h => filter_keep hlt h)
      have HDr := Lib.hid (fun h => filter_drop hlt h)
      have hle : ((l.take k).filter hasIs).length ≤ 1048576 := Nat.le_trans (List.length_filter_le _ _) (by simp; omega)
      clear hc
      generalize l[k] = x at c0 c1 HB1 HO1 HKe HDr
      obtain ⟨x1, x2⟩ := x
      by_cases hz : 0 < x2.size
      case neg =>
        have he := empty_of (s := x2) (by omega)
        have HE := Lib.hid (HDr.out (decide_eq_false hz))
        go_wp2
        go_roundw
        case rel => exact ⟨k + 1, by omega, by go_num, by rw [HE.out]; exact HO1.out, HB1⟩
        case measure => simp [intOf]; omega
      have he := nonempty_of hz
      have HE := Lib.hid (HKe.out (decide_eq_true hz))
      go_wp2_with (at_builtin; refine wpList_append_own _ rfl (.tmp 15) (.tmp 17) 24 rfl w.heap.size 31 i0 _ 2 32 Tryd.underlying24 hi0 hz0 hz1 hz2 rfl (by decide) _ _ _ rfl (HO1.out.alloc _) ⟨wr.heap.size + 1, 0, none⟩ 1 1 [.string x1, .string x2] rfl rfl ?c1 ?c2 ?c3 ?c4 ?c5 ?_)
      case c2 => exact ⟨rfl, rfl⟩
      case c3 => unfold maxLen; omega
      case c4 => omega
      case c5 => have := hb.out.size; omega
      intro v' w3 hown' hgrow _
      have HR := Lib.hid (kept_append HB1.out HO1.out hown' hgrow)
      clear hown' hgrow
      go_wp2
      go_roundw
      case rel => exact ⟨k + 1, by omega, by go_num, by rw [HE.out]; exact HR.out.1, HR.out.2⟩
      case measure => simp [intOf]; omega
    · obtain rfl : k = l.length := by omega
      rw [List.take_length] at hO
      go_wp2
      go_ret
      exact ⟨_, rfl, hO.out, hb.out⟩

/-- A label's two cells. -/
def encLab (x : Lab) : List Value := [.string x.1, .string x.2]
open Go.Sort Go.Shelf in
theorem holds_own {w : World} {base g c : Nat} {l : List Lab} (h : w.ownsRow base 31 2 (.slice (some ⟨g, 0, none⟩) l.length c) l.length (cellsOf l)) : HoldsK encLab 2 w g 0 l.toArray := by
  intro j hj
  rw [size_flatK] at hj
  have hj' : j < l.length * 2 := by simpa using hj
  refine ⟨?_, h.frozenAt _⟩
  rw [get_flatK _ _ _ _ hj, Nat.zero_add, h.cellAt j hj']
  have hk : j / 2 < l.length := by omega
  have hget : l.toArray[j / 2]! = l[j / 2] := by rw [getElem!_pos l.toArray (j / 2) (by simpa using hk)]; simp
  rw [hget]
  rcases (show j % 2 = 0 ∨ j % 2 = 1 by omega) with e | e
  · have hq := cellsOf_name hk
    rw [show j / 2 * 2 = j by omega] at hq
    rw [hq, e]; rfl
  · have hq := cellsOf_is hk
    rw [show j / 2 * 2 + 1 = j by omega] at hq
    rw [hq, e]; rfl

open Go.Sort Go.Shelf in
theorem below_sorted {B : Nat} {w0 w : World} {g n : Nat} {d : Array Lab} {os : Array Obj} (h : Below B w0 w) (hg : B ≤ g) (hB : B ≤ w.heap.size) : Below B w0 (sortWorldK encLab 2 w g 0 n d os) := by
  refine ⟨h.os, h.tape, h.output, Nat.le_trans h.size (size_sortWorldK_c encLab 2 w g 0 n d os), fun i hi => ?_⟩
  rw [← h.block i hi]
  unfold sortWorldK grow putRowK putRow mapBlock Sort.ahead
  simp only [Array.getElem?_append, Array.size_modify, Array.getElem?_modify]
  rw [if_pos (by omega), if_neg (by omega)]

open Go.Sort Go.Shelf in
theorem cmpLays59 (blk off size : Nat) (w : World) : CmpLays Tryd.prog 59 #[] encLab 2 (fun x y => cmpB x.1 y.1) blk off size w :=
  fun m os dk _ x y => (names59 x.1 x.2 y.1 y.2 _).mono fun e w' ⟨he, hw⟩ => by subst hw; exact ⟨he, 0, _, by rw [alloc_eq_grow, alloc_eq_grow, grow_grow]; rfl⟩

theorem swoLab : Go.Sort.SWO (Go.Proofs.ltOf fun (x y : Lab) => cmpB x.1 y.1) := by
  have e : ∀ x y : Lab, Go.Proofs.ltOf (fun (x y : Lab) => cmpB x.1 y.1) x y = less x.1 y.1 := by
    intro x y
    show decide (cmpB x.1 y.1 < 0) = less x.1 y.1
    rw [cmpB_eq]
    cases less x.1 y.1 <;> cases (x.1.toList == y.1.toList) <;> simp
  refine ⟨fun x => by rw [e, less_irr], fun x y z h1 h2 => by rw [e] at *; exact less_trans h1 h2, fun x y z h1 h2 => ?_⟩
  rw [e] at *
  cases h3 : less x.1 z.1 with
  | false => rfl
  | true =>
    rw [less_false] at h1 h2
    rw [less_iff] at h3
    exact absurd (List.le_trans h2 h1) (List.not_le.2 h3)

/-- A copy of labels is in new memory. -/
def Copied (l : List Lab) (w : World) (e : Ending) (w' : World) : Prop := ∃ v, e = .returned v ∧ w'.ownsRow w.heap.size 31 2 v l.length (cellsOf l) ∧ Below w.heap.size w w'

theorem clone57 (base : Nat) (v : Value) (l : List Lab) (hn : l.length ≤ 1048576) (w : World) (ho : w.ownsRow base 31 2 v l.length (cellsOf l)) : Calls Tryd.prog 57 #[v] w (Copied l w) := by
  obtain ⟨i0, hi0, hz0, hz1, hz2⟩ := info_parts Tryd.info31
  rcases ho.2 with ⟨rfl, h0⟩ | ⟨g, c, _, rfl, _⟩
  · have hcon := AnyE.slices_Clone_nil Tryd.cloneL 0 0 w
    change Calls Tryd.prog 57 _ _ _ at hcon
    refine hcon.mono fun e w' ⟨he, hw⟩ => ⟨_, he, ?_, by rw [hw]; exact Below.refl _ _⟩
    obtain rfl : l = [] := List.eq_nil_of_length_eq_zero h0
    exact World.ownsRow_nil _ _ _ _
  · have hcon := AnyE.slices_Clone Tryd.cloneL i0 _ 2 32 hi0 hz0 hz1 hz2 rfl (by omega) Tryd.sizeOf31 g 0 l.length c (cellsOf l) w ho.1 (by unfold maxLen; omega) (by omega)
      (fun j u hu => by have := ho.cells (g := g) rfl j u hu; rwa [Go.WideShapes.add_plain] at this) cellsOf_one
    change Calls Tryd.prog 57 _ _ _ at hcon
    exact hcon.mono fun e w' ⟨v', he, h1, _, h3⟩ => ⟨v', he, h1, h3⟩

theorem len89 (n : Nat) (W : World) (h : n ≤ 12) : Calls Tryd.prog 89 #[.int .u64 n] W fun e w' => (∃ l : Int, e = .returned (.int .i64 l)) ∧ w' = W := by
  have hcon := Any.bits_Len Tryd.lays125 n W (by omega) (by omega)
  change Calls Tryd.prog 89 _ _ _ at hcon
  exact hcon.mono fun _ _ ⟨he, hw⟩ => ⟨⟨_, he⟩, hw⟩

theorem none101 (ao : Option Addr) (c : Nat) (fv : Value) (w : World) : Calls Tryd.prog 101 #[.slice ao 0 c, .int .i64 0, .int .i64 0, fv] w fun e w' => e = .returned (.tuple #[]) ∧ w = w' := by
  go_enter Tryd.func101, Tryd.ntmps101
  go_wp2
  refine wp_loop_rounds 1 ?_
  rw [rounds_succ]
  go_wp2
  go_end0
  exact ⟨rfl, rfl⟩
set_option maxRecDepth 100000 in
theorem none88 (ao : Option Addr) (c : Nat) (lim : Int) (fv : Value) (w : World) : Calls Tryd.prog 88 #[.slice ao 0 c, .int .i64 0, .int .i64 0, .int .i64 lim, fv] w fun e w' => e = .returned (.tuple #[]) ∧ w = w' := by
  go_enter Tryd.func88, Tryd.ntmps88
  go_wp2
  refine wp_loop_rounds 1 ?_
  rw [rounds_succ]
  go_wp2_with fail
  refine (none101 ao c fv w).mono ?_
  rintro e w' ⟨rfl, rfl⟩
  go_wp2
  refine bodyPost_ret (results_none rfl _ _ _) rfl ?_
  exact ⟨rfl, rfl⟩
theorem none58 (ao : Option Addr) (c : Nat) (fv : Value) (w : World) : Calls Tryd.prog 58 #[.slice ao 0 c, fv] w fun e w' => e = .returned (.tuple #[]) ∧ w = w' := by
  go_enter Tryd.func58, Tryd.ntmps58
  go_wp2_with fail
  refine (len89 0 w (by omega)).mono ?_
  rintro e w' ⟨⟨lim, rfl⟩, rfl⟩
  go_wp2_with fail
  refine (none88 ao c lim fv _).mono ?_
  rintro e w1 ⟨rfl, rfl⟩
  go_wp2
  go_end0
  exact ⟨rfl, rfl⟩

/-- What the sort of labels comes to. -/
def SortedTo (base n : Nat) (v : Value) (l : List Lab) (w : World) (e : Ending) (w' : World) : Prop :=
  e = .returned (.tuple #[]) ∧ ∃ S ao c, v = .slice ao n c ∧ S.length = n ∧ S.Perm l ∧ (∀ i j (hi : i < S.length) (hj : j < S.length), i < j → less S[j].1 S[i].1 = false) ∧ LRow w' w'.heap.size ao S ∧ ∀ w0, base ≤ w.heap.size → Below base w0 w → Below base w0 w'

open Go.Sort Go.Shelf in
theorem sort58 (base : Nat) (v : Value) (l : List Lab) (h12 : l.length ≤ 12) (w : World) (ho : w.ownsRow base 31 2 v l.length (cellsOf l)) :
    Calls Tryd.prog 58 #[v, .func (.func 59) #[] #[]] w (SortedTo base l.length v l w) := by
  by_cases h0 : l.length = 0
  · obtain rfl : l = [] := List.eq_nil_of_length_eq_zero h0
    obtain ⟨ao, c, rfl⟩ : ∃ ao c, v = .slice ao 0 c := by
      rcases ho.2 with ⟨rfl, _⟩ | ⟨g, c, _, rfl, _⟩
      · exact ⟨_, _, rfl⟩
      · exact ⟨_, _, rfl⟩
    refine (none58 ao c _ w).mono fun e w' ⟨he, hw⟩ => ⟨he, [], ao, c, rfl, rfl, List.Perm.refl _, fun i j hi => by simp at hi, LRow.nil _ _ _, fun w0 _ h => by rw [← hw]; exact h⟩
  · obtain ⟨g, c, rfl, hbg, hg⟩ := ho.form (by omega)
    have eg : ∀ args w, (callFunc 59 args).run Tryd.prog w = .ok (.enter 59 args) w := enters_of Tryd.func59 (by kernel_rfl) rfl
    have hH := holds_own ho
    have hcon := AnyQ.slices_SortFunc_small_sorted Tryd.sortL 2 Tryd.isAgg31 Tryd.sizeOf31 encLab (fun _ => rfl) (fun x v hv => by simp [encLab] at hv; rcases hv with rfl | rfl <;> rfl) (fun x y => cmpB x.1 y.1) 59 #[] swoLab g 0 c l.toArray w eg (cmpLays59 g 0 l.toArray.size w) hH hg (by simpa using h12) len89
    change Calls Tryd.prog 58 _ _ _ at hcon
    rw [List.size_toArray] at hcon
    refine hcon.mono fun e w' ⟨he, d', n, os, hp, hs, hw⟩ => ⟨he, d'.toList, _, c, rfl, ?_, ?_, ?_, ?_, ?_⟩
    · have := hp.1; simpa using this
    · have hsz : d'.size = l.length := by have := hp.1; simpa using this
      have := hp.2.2
      rw [Array.extract_eq_self_of_le (by omega)] at this
      simpa using this
    · intro i j hi hj hij
      have hsz : d'.size = l.length := by have := hp.1; simpa using this
      have hi' : i < d'.size := by simpa using hi
      have hj' : j < d'.size := by simpa using hj
      have := hs i j (Nat.zero_le _) hij (by omega)
      rw [getElem!_pos d' i hi', getElem!_pos d' j hj'] at this
      have e : ∀ x y : Lab, Go.Proofs.ltOf (fun (x y : Lab) => cmpB x.1 y.1) x y = less x.1 y.1 := by
        intro x y
        show decide (cmpB x.1 y.1 < 0) = less x.1 y.1
        rw [cmpB_eq]
        cases less x.1 y.1 <;> cases (x.1.toList == y.1.toList) <;> simp
      rw [e] at this
      simpa using this
    · intro _
      have hsz : d'.size = l.toArray.size := hp.1
      have hH2 := holdsK_sortWorldK_c encLab 2 w g 0 l.toArray d' n os hH hg hsz
      refine ⟨g, 0, rfl, ?_, fun k hk => ?_⟩
      · rw [hw]; exact Nat.lt_of_lt_of_le hg (size_sortWorldK_c encLab 2 w g 0 n d' os)
      · have hk' : k < d'.size := by simpa using hk
        have c0 := (hH2.cell (i := k) (c := 0) hk' (by omega)).1
        have c1 := (hH2.cell (i := k) (c := 1) hk' (by omega)).1
        rw [getElem!_pos d' k hk'] at c0 c1
        rw [hw]
        exact ⟨c0, c1⟩
    · intro w0 hB hb
      rw [hw]
      exact below_sorted hb hbg hB

/-- What sorting labels comes to, in the program and in the model. -/
def SortEnd (l : List Lab) (w : World) (e : Ending) (w' : World) : Prop :=
  ∃ v R, e = .returned (.tuple #[v, .int .i64 (codeB l), .bool (codeB l == 0)]) ∧ ResS l R ∧ w'.ownsRow w.heap.size 31 2 v R.length (cellsOf R) ∧ Below w.heap.size w w'
theorem sortEnd_no {l : List Lab} {w w' : World} {c : Nat} (hc : codeB l = c) (h0 : c ≠ 0) (hb : Below w.heap.size w w') : SortEnd l w (.returned (.tuple #[.slice none 0 0, .int .i64 (c : Int), .bool false])) w' := by
  subst hc
  have hz : (codeB l == 0) = false := by simpa using h0
  exact ⟨_, [], by rw [hz], ⟨fun h => absurd h h0, fun _ => rfl⟩, World.ownsRow_nil _ _ _ _, hb⟩
theorem sortEnd_yes {l R : List Lab} {w w' : World} {v : Value} (hc : codeB l = 0) (hR : SortRes l R) (ho : w'.ownsRow w.heap.size 31 2 v R.length (cellsOf R)) (hb : Below w.heap.size w w') : SortEnd l w (.returned (.tuple #[v, .int .i64 0, .bool true])) w' :=
  ⟨v, R, by rw [hc]; rfl, ⟨fun _ => hR, fun h => absurd hc h⟩, ho, hb⟩
theorem own_later {w w1 w' : World} {v : Value} {n : Nat} {xs : List Value} (h : w'.ownsRow w1.heap.size 31 2 v n xs) (hle : w.heap.size ≤ w1.heap.size) : w'.ownsRow w.heap.size 31 2 v n xs := by
  refine ⟨h.1, ?_⟩
  rcases h.2 with h' | ⟨g, cap, cur, hv, hb, rest⟩
  · exact .inl h'
  · exact .inr ⟨g, cap, cur, hv, Nat.le_trans hle hb, rest⟩

set_option maxHeartbeats 2000000 in
theorem sort16 (base : Nat) (v : Value) (l : List Lab) (hn : l.length ≤ 1048576) (w : World) (hT : Tabs w) (ho : w.ownsRow base 31 2 v l.length (cellsOf l)) :
    Calls Tryd.prog 16 #[v] w (SortEnd l w) := by
  obtain ⟨ao, c, rfl⟩ : ∃ ao c, v = .slice ao l.length c := by
    rcases ho.2 with ⟨rfl, h0⟩ | ⟨g, c, _, rfl, _⟩
    · exact ⟨_, _, by rw [h0]⟩
    · exact ⟨_, _, rfl⟩
  have H := Lib.hid ho
  clear ho
  go_enter Tryd.func16, Tryd.ntmps16
  go_wp2_with fail
  refine (part56 ao c l hn w hT (LRow.of_own H.out).2).mono ?_
  rintro e w1 ⟨rfl, hb⟩
  have HB := Lib.hid hb
  replace H := Lib.hid (H.out.kept (row := none) ⟨hb.os, hb.tape, hb.output, hb.size, fun i hi _ => hb.block i hi⟩ (by simp [Value.ownBlock]; cases ao <;> simp))
  clear hb
  by_cases hp : partC l = 0
  case neg =>
    have HK := Lib.hid (sortEnd_no (codeB_part hp) hp HB.out)
    have hp' : ((partC l : Int) != 0) = true := by simpa using hp
    clear hp
    go_wp2
    go_ret3
    exact HK.out
  have h12 := (partC_zero hp).1
  have HP := Lib.hid hp
  rw [hp]
  clear hp
  go_wp2_with fail
  refine (clone57 base _ l hn w1 H.out).mono ?_
  rintro e w2 ⟨v2, rfl, ho2, hb⟩
  have z2 : w.heap.size ≤ w1.heap.size := HB.out.size
  have HB2 := Lib.hid (HB.out.trans (hb.mono HB.out.size))
  have HBc := Lib.hid hb
  have HO2 := Lib.hid ho2
  clear hb ho2
  go_wp2_with fail
  refine (sort58 w1.heap.size v2 l h12 w2 HO2.out).mono ?_
  rintro e w3 ⟨rfl, S, ao3, c3, rfl, hl3, hperm, hsort, hrow, hbel⟩
  have HB3 := Lib.hid (HB.out.trans ((hbel w1 HBc.out.size HBc.out).mono z2))
  have HR3 := Lib.hid hrow
  have HPm := Lib.hid hperm
  have HSo := Lib.hid hsort
  have HL3 := Lib.hid hl3
  clear hrow hbel hperm hsort hl3
  rw [← HL3.out]
  have hS12 : S.length ≤ 1048576 := by rw [HL3.out]; omega
  go_wp2_with fail
  refine (twice60 ao3 c3 S hS12 HSo.out w3 HR3.out).mono ?_
  rintro e w4 ⟨rfl, hb⟩
  have HB4 := Lib.hid (HB3.out.trans (hb.mono HB3.out.size))
  have HR4 := Lib.hid (HR3.out.after hb)
  clear hb
  by_cases hnd : (names l).Nodup
  case neg =>
    have hq : (!decide (names S).Nodup) = true := by simp [(names_perm HPm.out), hnd]
    have HK := Lib.hid (sortEnd_no (codeB_twice HP.out hnd) (by omega) HB4.out)
    rw [hq]
    clear hq hnd
    go_wp2
    go_ret3
    exact HK.out
  have hq : (!decide (names S).Nodup) = false := by simp [(names_perm HPm.out), hnd]
  have hstrict : strict S := strict_of_adj HSo.out (fun i h he => adj_not_nodup h he ((names_perm HPm.out).2 hnd))
  have HRes := Lib.hid (sortRes_of HPm.out hstrict)
  have HLen := Lib.hid ((HPm.out.filter hasIs).length_eq)
  have HND := Lib.hid hnd
  rw [hq]
  clear hq hnd hstrict
  go_wp2_with fail
  refine (withIs61 ao3 c3 S hS12 w4 HR4.out).mono ?_
  rintro e w5 ⟨v5, rfl, ho5, hb⟩
  obtain ⟨ao5, c5, rfl⟩ : ∃ ao c, v5 = .slice ao (S.filter hasIs).length c := by
    rcases ho5.2 with ⟨rfl, h0⟩ | ⟨g, c, _, rfl, _⟩
    · exact ⟨_, _, by rw [h0]⟩
    · exact ⟨_, _, rfl⟩
  have HB5 := Lib.hid (HB4.out.trans (hb.mono HB4.out.size))
  have HO5 := Lib.hid (own_later ho5 HB4.out.size)
  clear hb ho5
  by_cases h6 : 6 < (S.filter hasIs).length
  · have HK := Lib.hid (sortEnd_no (codeB_full HP.out HND.out (by rw [← HLen.out]; exact h6)) (by omega) HB5.out)
    have hd : decide (6 < ((S.filter hasIs).length : Int)) = true := by simp; omega
    go_wp2
    go_ret3
    exact HK.out
  · have HK := Lib.hid (sortEnd_yes (codeB_ok HP.out HND.out (by rw [← HLen.out]; exact h6)) HRes.out HO5.out HB5.out)
    have hd : decide (6 < ((S.filter hasIs).length : Int)) = false := by simp; omega
    go_wp2
    go_ret3
    exact HK.out
end Go.Proofs.YtoelcbfbpijfcaaDoor
